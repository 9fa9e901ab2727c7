package req_test

import (
	"bytes"
	"encoding/binary"
	"math"
	"math/rand"
	"slices"
	"testing"

	"berthage/api"
	"berthage/req"
)

const (
	head  = 0xb7
	kinds = 13
)

// has returns the names of the fields that the document gives a kind, in the order of their encoding.
func has(kind int) []string {
	switch kind {
	case 1:
		return []string{"User", "Width", "Limit", "Prio", "Held"}
	case 2, 3, 4, 5, 6:
		return []string{"Id"}
	case 7, 8:
		return []string{"Node"}
	case 9:
		return []string{"By"}
	default:
		return nil
	}
}

// names returns the names of all fields but Kind.
func names() []string {
	return []string{"Id", "User", "Width", "Limit", "Prio", "Held", "Node", "By"}
}

// set sets a field to a number; Held if the number is odd.
func set(r *api.Request, name string, n int64) {
	switch name {
	case "Id":
		r.Id = int(n)
	case "User":
		r.User = int(n)
	case "Width":
		r.Width = int(n)
	case "Limit":
		r.Limit = n
	case "Prio":
		r.Prio = int(n)
	case "Held":
		r.Held = n&1 != 0
	case "Node":
		r.Node = int(n)
	case "By":
		r.By = n
	default:
		panic(name)
	}
}

// get returns a field as a number; Held is 1 or 0.
func get(r api.Request, name string) int64 {
	held := int64(0)
	if r.Held {
		held = 1
	}
	return map[string]int64{
		"Id": int64(r.Id), "User": int64(r.User), "Width": int64(r.Width), "Limit": r.Limit,
		"Prio": int64(r.Prio), "Held": held, "Node": int64(r.Node), "By": r.By,
	}[name]
}

// check returns the checksum, in numbers that are wide enough, modulo 256 by %.
func check(b []byte) byte {
	s := len(b) % 256
	for k, c := range b {
		s = (31*s + int(c)) % 256
		s ^= k % 256
	}
	return byte(s)
}

// closed returns bytes with their checksum behind them.
func closed(b ...byte) []byte {
	b = slices.Clone(b)
	return append(b, check(b))
}

// encode returns the encoding of a valid request, by the document's words.
func encode(r api.Request) []byte {
	b := []byte{head, byte(r.Kind)}
	for _, name := range has(r.Kind) {
		if name == "Held" {
			b = append(b, byte(get(r, name)))
		} else {
			b = binary.AppendVarint(b, get(r, name))
		}
	}
	return closed(b...)
}

// decode returns the request whose encoding b is, by the document's words, and whether there is one.
func decode(b []byte) (api.Request, bool) {
	if len(b) < 3 || len(b) > 64 || b[0] != head || b[1] < 1 || b[1] > kinds || check(b[:len(b)-1]) != b[len(b)-1] {
		return api.Request{}, false
	}
	r := api.Request{Kind: int(b[1])}
	b = b[2 : len(b)-1]
	for _, name := range has(r.Kind) {
		if name == "Held" {
			if len(b) == 0 || b[0] > 1 {
				return api.Request{}, false
			}
			r.Held = b[0] == 1
			b = b[1:]
			continue
		}
		v, n := binary.Varint(b)
		if n <= 0 || !bytes.Equal(binary.AppendVarint(nil, v), b[:n]) {
			return api.Request{}, false
		}
		set(&r, name, v)
		b = b[n:]
	}
	return r, len(b) == 0
}

// numbers returns numbers at and beside each power of two, of both signs.
func numbers() []int64 {
	l := []int64{0, math.MinInt64, math.MaxInt64}
	for i := range 63 {
		for d := int64(-1); d <= 1; d++ {
			l = append(l, 1<<i+d, -(1<<i + d))
		}
	}
	return l
}

// valid returns valid requests of all kinds: each number in each field alone, then in all fields, then mixed.
func valid() []api.Request {
	var l []api.Request
	rnd := rand.New(rand.NewSource(10))
	ns := numbers()
	for kind := 1; kind <= kinds; kind++ {
		l = append(l, api.Request{Kind: kind})
		if len(has(kind)) == 0 {
			continue
		}
		for _, n := range ns {
			all, mixed := api.Request{Kind: kind}, api.Request{Kind: kind}
			for _, name := range has(kind) {
				one := api.Request{Kind: kind}
				set(&one, name, n)
				set(&all, name, n)
				set(&mixed, name, ns[rnd.Intn(len(ns))])
				l = append(l, one)
			}
			l = append(l, all, mixed)
		}
	}
	return l
}

// invalid returns requests that are not valid: of no kind, or with a field that their kind does not have.
func invalid() []api.Request {
	var l []api.Request
	for _, kind := range noKinds() {
		l = append(l, api.Request{Kind: kind})
		for _, name := range names() {
			r := api.Request{Kind: kind}
			set(&r, name, 1)
			l = append(l, r)
		}
	}
	for kind := 1; kind <= kinds; kind++ {
		for _, name := range names() {
			if slices.Contains(has(kind), name) {
				continue
			}
			for _, n := range []int64{1, -1, 3, math.MaxInt64, math.MinInt64 + 1} {
				r := api.Request{Kind: kind}
				set(&r, name, n)
				l = append(l, r)
				for _, own := range has(kind) {
					set(&r, own, 5)
				}
				l = append(l, r)
			}
		}
	}
	return l
}

// noKinds returns numbers that are no kinds, also such of which a part is the number of one.
func noKinds() []int {
	l := []int{math.MinInt, math.MaxInt, 1 << 16, 1 << 32}
	for n := -60; n <= 0; n++ {
		l = append(l, n)
	}
	for n := kinds + 1; n <= 256; n++ {
		l = append(l, n)
	}
	for k := 1; k <= kinds; k++ {
		l = append(l, k+256, k-256, k+1<<16, k+1<<32, k-1<<32, k+math.MinInt)
	}
	return l
}

// wrong checks that bytes are refused with an error, and with a request of zeros.
func wrong(t *testing.T, b []byte, want api.Errno) {
	t.Helper()
	if r, e := req.Read(b); e != want || r != (api.Request{}) {
		t.Errorf("Read of % x: %v and %d, not %d", b, r, e, want)
	}
}

// same checks that bytes are read as the document's words say.
func same(t *testing.T, b []byte) {
	t.Helper()
	want, ok := decode(b)
	switch {
	case len(b) > 64:
		wrong(t, b, api.ErrLong)
	case len(b) < 3:
		wrong(t, b, api.ErrShort)
	case !ok:
		wrong(t, b, api.ErrForm)
	default:
		if r, e := req.Read(b); e != api.OK || r != want {
			t.Errorf("Read of % x: %v and %d, not %v", b, r, e, want)
		}
	}
}

// Promise 10.1.

func TestExamplesOfBytes(t *testing.T) {
	for _, x := range []struct {
		r    api.Request
		want []byte
	}{
		// 2 bytes: (31*2+b7)^0 = f5, (31*f5+0a)^1 = b4.
		{api.Request{Kind: api.ReqInfo}, []byte{0xb7, 0x0a, 0xb4}},
		{api.Request{Kind: api.ReqStop}, []byte{0xb7, 0x0d, 0xb9}},
		{api.Request{Kind: api.ReqCancel, Id: -3}, closed(0xb7, 2, 5)},
		{api.Request{Kind: api.ReqHold, Id: 1}, closed(0xb7, 3, 2)},
		{api.Request{Kind: api.ReqRelease, Id: 64}, closed(0xb7, 4, 0x80, 1)},
		{api.Request{Kind: api.ReqComplete}, closed(0xb7, 5, 0)},
		{api.Request{Kind: api.ReqQuery, Id: 150}, closed(0xb7, 6, 0xac, 2)},
		{api.Request{Kind: api.ReqDrain, Node: 63}, closed(0xb7, 7, 0x7e)},
		{api.Request{Kind: api.ReqResume, Node: -1}, closed(0xb7, 8, 1)},
		{api.Request{Kind: api.ReqTick, By: 1000}, closed(0xb7, 9, 0xd0, 0x0f)},
		{api.Request{Kind: api.ReqLoad}, closed(0xb7, 11)},
		{api.Request{Kind: api.ReqClock}, closed(0xb7, 12)},
		{api.Request{Kind: api.ReqSubmit, User: 1, Width: 2, Limit: 3, Prio: 4, Held: true}, closed(0xb7, 1, 2, 4, 6, 8, 1)},
		{api.Request{Kind: api.ReqSubmit, User: -1, Width: -2, Limit: 64, Prio: -65}, closed(0xb7, 1, 1, 3, 0x80, 1, 0x81, 1, 0)},
		{api.Request{Kind: api.ReqSubmit}, closed(0xb7, 1, 0, 0, 0, 0, 0)},
	} {
		if b, e := req.Bytes(x.r); e != api.OK || !bytes.Equal(b, x.want) {
			t.Errorf("Bytes of %v: % x and %d, not % x", x.r, b, e, x.want)
		}
	}
	if b, e := req.Bytes(api.Request{Kind: api.ReqStop, Id: 1}); e != api.ErrArg || b != nil {
		t.Errorf("Bytes of a ReqStop with an Id: % x and %d", b, e)
	}
}

func TestRightAndBytes(t *testing.T) {
	longest := 0
	for _, r := range valid() {
		if !req.Right(r) {
			t.Errorf("%v is not right", r)
		}
		b, e := req.Bytes(r)
		if want := encode(r); e != api.OK || !bytes.Equal(b, want) {
			t.Errorf("Bytes of %v: % x and %d, not % x", r, b, e, want)
		}
		longest = max(longest, len(b))
	}
	// Four numbers of ten bytes each are the most that a request has.
	if longest != 44 || req.MaxBytes != 64 {
		t.Errorf("the longest encoding has %d bytes of %d", longest, req.MaxBytes)
	}
}

func TestNotRight(t *testing.T) {
	for _, r := range invalid() {
		if req.Right(r) {
			t.Errorf("%v is right", r)
		}
		if b, e := req.Bytes(r); e != api.ErrArg || len(b) != 0 {
			t.Errorf("Bytes of %v: % x and %d", r, b, e)
		}
	}
}

func TestBytesAreNew(t *testing.T) {
	for _, r := range []api.Request{{Kind: api.ReqInfo}, {Kind: api.ReqTick, By: 9}, {Kind: api.ReqSubmit, Width: 2}} {
		a, _ := req.Bytes(r)
		b, _ := req.Bytes(r)
		a = a[:cap(a)]
		for k := range a {
			a[k] = 0xee
		}
		if c, _ := req.Bytes(r); !bytes.Equal(b, encode(r)) || !bytes.Equal(c, encode(r)) {
			t.Errorf("the bytes of %v are now % x and % x", r, b, c)
		}
	}
}

// Promise 10.2.

func TestReadLengths(t *testing.T) {
	for n := range 200 {
		zeros := make([]byte, n)
		same(t, zeros)
		if n == 0 {
			continue
		}
		begun := make([]byte, n)
		copy(begun, []byte{head, 10, 0xb4})
		same(t, begun)
		same(t, closed(begun[:n-1]...))
	}
	wrong(t, nil, api.ErrShort)
	wrong(t, []byte{}, api.ErrShort)
	wrong(t, []byte{head}, api.ErrShort)
	wrong(t, []byte{head, 10}, api.ErrShort)
	wrong(t, []byte{head, 10, 0xb5}, api.ErrForm)
	wrong(t, make([]byte, 3), api.ErrForm)
	wrong(t, make([]byte, 64), api.ErrForm)
	wrong(t, make([]byte, 65), api.ErrLong)
	wrong(t, make([]byte, 1<<16), api.ErrLong)
}

func TestReadExamples(t *testing.T) {
	for want, b := range map[api.Request][]byte{
		{Kind: api.ReqInfo}:           {0xb7, 0x0a, 0xb4},
		{Kind: api.ReqStop}:           {0xb7, 0x0d, 0xb9},
		{Kind: api.ReqDrain, Node: 3}: closed(0xb7, 7, 6),
		{Kind: api.ReqSubmit, User: 1, Width: 2, Limit: 3, Prio: -4, Held: true}: closed(0xb7, 1, 2, 4, 6, 7, 1),
	} {
		if r, e := req.Read(b); e != api.OK || r != want {
			t.Errorf("Read of % x: %v and %d", b, r, e)
		}
		for d := 1; d < 256; d++ {
			other := slices.Clone(b)
			other[len(b)-1] ^= byte(d)
			wrong(t, other, api.ErrForm)
		}
	}
}

func TestReadOtherForms(t *testing.T) {
	nine := bytes.Repeat([]byte{0xff}, 9)
	for _, b := range [][]byte{
		closed(0xb6, 10), closed(0, 10), closed(0x37, 10), // not the first byte
		closed(head, 0), closed(head, 14), closed(head, 255), closed(head, 0x81), closed(head, 0x8a, 0), // no kind
		closed(head, 2), closed(head, 7), closed(head, 9), // a missing number
		closed(head, 9, 0x80), closed(head, 9, 0xff, 0xff),
		closed(head, 9, 0x80, 0), closed(head, 9, 0x82, 0x80, 0), // more bytes than needed
		closed(append([]byte{head, 9}, append(slices.Clone(nine), 2)...)...), // more than 64 bits
		closed(append([]byte{head, 9}, append(slices.Clone(nine), 0x81, 0)...)...),
		closed(append([]byte{head, 9}, append(slices.Clone(nine), 0x7f)...)...),
		closed(head, 10, 0), closed(head, 13, 1), closed(head, 9, 2, 0), closed(head, 2, 2, 2), // too many bytes
		closed(head, 1, 2, 4, 6, 8), closed(head, 1, 2, 4, 6), closed(head, 1), // a missing boolean, or more
		closed(head, 1, 2, 4, 6, 8, 2), closed(head, 1, 2, 4, 6, 8, 0xff), closed(head, 1, 2, 4, 6, 8, 0x81), // no boolean
		closed(head, 1, 2, 4, 6, 8, 1, 0), closed(head, 1, 2, 4, 6, 0x88, 0, 1),
		append(closed(head, 10), 0), append(closed(head, 10), check(closed(head, 10))), // behind the checksum
		{head, 10, 0}, {10, head, 0xb4},
	} {
		wrong(t, b, api.ErrForm)
	}
	greatest := closed(append([]byte{head, 9}, append(bytes.Repeat([]byte{0xff}, 9), 1)...)...)
	if r, e := req.Read(greatest); e != api.OK || r != (api.Request{Kind: api.ReqTick, By: math.MinInt64}) {
		t.Errorf("Read of the least number: %v and %d", r, e)
	}
}

// TestReadAllShort goes through all bytes of up to three with any checksum, and those of four and five with the right one.
func TestReadAllShort(t *testing.T) {
	want := map[string]api.Request{}
	for kind := 1; kind <= kinds; kind++ {
		if l := has(kind); len(l) == 0 {
			r := api.Request{Kind: kind}
			want[string(encode(r))] = r
		} else if len(l) == 1 {
			for n := int64(-8192); n < 8192; n++ { // those of at most two bytes
				r := api.Request{Kind: kind}
				set(&r, l[0], n)
				want[string(encode(r))] = r
			}
		}
	}
	found := map[api.Request]int{}
	try := func(b ...byte) {
		r, e := req.Read(b)
		is, ok := want[string(b)]
		if ok && (e != api.OK || r != is) || !ok && (e != api.ErrForm || r != api.Request{}) {
			t.Fatalf("Read of % x: %v and %d", b, r, e)
		}
		if ok {
			found[r]++
		}
	}
	for x := range 1 << 16 {
		try(closed(byte(x), byte(x>>8))...)
		try(head, byte(x), byte(x>>8))
		try(closed(head, byte(x), byte(x>>8))...)
	}
	for kind := range 16 {
		for x := range 1 << 16 {
			try(closed(head, byte(kind), byte(x), byte(x>>8))...)
		}
	}
	if len(found) != len(want) {
		t.Errorf("%d requests were read, not %d", len(found), len(want))
	}
}

// TestReadChanged changes encodings a little, and gives them the right checksum or leaves theirs.
func TestReadChanged(t *testing.T) {
	rnd := rand.New(rand.NewSource(11))
	read := 0
	for _, r := range valid() {
		for range 30 {
			b := encode(r)
			b = b[:len(b)-1]
			for range 1 + rnd.Intn(2) {
				k := rnd.Intn(len(b))
				switch rnd.Intn(4) {
				case 0:
					b[k] ^= 1 << rnd.Intn(8)
				case 1:
					b[k] = byte(rnd.Intn(256))
				case 2:
					b = slices.Insert(b, k, []byte{0, 1, 0x7f, 0x80, 0x81, 0xff}[rnd.Intn(6)])
				default:
					if len(b) > 1 {
						b = slices.Delete(b, k, k+1)
					}
				}
			}
			same(t, b)
			same(t, closed(b...))
			if _, ok := decode(closed(b...)); ok {
				read++
			}
		}
	}
	if read < 1000 {
		t.Errorf("only %d were encodings", read)
	}
}

func TestReadAnyByteChanged(t *testing.T) {
	r := api.Request{Kind: api.ReqSubmit, User: 255, Width: 64, Limit: 1 << 20, Prio: -1000, Held: true}
	for _, b := range [][]byte{encode(r), encode(api.Request{Kind: api.ReqTick, By: 1 << 40}), encode(api.Request{Kind: api.ReqLoad})} {
		for k := range b {
			for d := 1; d < 256; d++ {
				other := slices.Clone(b)
				other[k] ^= byte(d)
				wrong(t, other, api.ErrForm)
			}
		}
		for n := range b {
			same(t, b[:n])
		}
	}
}

func TestReadLeavesItsBytes(t *testing.T) {
	for _, b := range [][]byte{encode(api.Request{Kind: api.ReqTick, By: 77}), closed(head, 9, 0x80, 0), make([]byte, 70), {1, 2}} {
		// What lies behind the end of the bytes stays, too.
		room := append(slices.Clone(b), 0xee, 0xee, 0xee)
		before := slices.Clone(room)
		req.Read(room[:len(b)])
		if !bytes.Equal(room, before) {
			t.Errorf("% x has become % x", before, room)
		}
	}
}

// Promise 10.3.

func TestThereAndBack(t *testing.T) {
	for _, r := range valid() {
		b, e := req.Bytes(r)
		if got, f := req.Read(b); e != api.OK || f != api.OK || got != r {
			t.Errorf("%v is %v again, with %d and %d", r, got, e, f)
		}
	}
}

func TestBackAndThere(t *testing.T) {
	rnd := rand.New(rand.NewSource(12))
	read := 0
	for range 300000 {
		b := []byte{head, byte(1 + rnd.Intn(kinds))}
		for range rnd.Intn(7) {
			b = append(b, byte(rnd.Intn(1<<(1+rnd.Intn(8)))))
		}
		b = closed(b...)
		r, e := req.Read(b)
		if e != api.OK {
			continue
		}
		read++
		if again, f := req.Bytes(r); !req.Right(r) || f != api.OK || !bytes.Equal(again, b) {
			t.Fatalf("% x is % x again, with %d", b, again, f)
		}
	}
	if read < 10000 {
		t.Errorf("only %d were encodings", read)
	}
}
