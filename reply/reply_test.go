package reply_test

import (
	"bytes"
	"encoding/binary"
	"math"
	"math/rand"
	"slices"
	"testing"

	"berthage/api"
	"berthage/reply"
)

const (
	head = 0xb8
	nine = 9
)

// fields returns the numbers of a reply in the document's order.
func fields(r api.Reply) []int64 {
	return []int64{int64(r.Err), int64(r.Id), int64(r.State), r.Start, r.End, r.Plan, int64(r.A), int64(r.B), int64(r.C)}
}

// set sets the number with an index.
func set(r *api.Reply, i int, n int64) {
	switch i {
	case 0:
		r.Err = api.Errno(n)
	case 1:
		r.Id = int(n)
	case 2:
		r.State = int(n)
	case 3:
		r.Start = n
	case 4:
		r.End = n
	case 5:
		r.Plan = n
	case 6:
		r.A = int(n)
	case 7:
		r.B = int(n)
	case 8:
		r.C = int(n)
	default:
		panic(i)
	}
}

// encode returns the encoding of a reply, by the document's words.
func encode(r api.Reply) []byte {
	mask, tail := uint64(0), []byte(nil)
	for i, n := range fields(r) {
		if n == 0 {
			continue
		}
		mask += 1 << i
		tail = binary.AppendVarint(tail, n)
	}
	return append(binary.AppendUvarint([]byte{head}, mask), tail...)
}

// varint returns the number of at most so many bits at the beginning of b, its length, and what is wrong with it.
func varint(b []byte, most int) (v uint64, length int, e api.Errno) {
	for k, c := range b {
		group := uint64(c & 0x7f)
		switch {
		case 7*k >= 64 || group<<(7*k)>>(7*k) != group:
			return 0, 0, api.ErrForm
		case most == 63 && group<<(7*k)>>63 != 0:
			return 0, 0, api.ErrForm
		case k == 9 && c >= 0x80, k == 8 && most == 63 && c >= 0x80: // whatever follows is too much, or a 0
			return 0, 0, api.ErrForm
		}
		v += group << (7 * k)
		if c < 0x80 {
			if k > 0 && c == 0 {
				return 0, 0, api.ErrForm
			}
			return v, k + 1, api.OK
		}
	}
	return 0, 0, api.ErrShort
}

// decode returns the reply whose encoding b is, or the first error from left to right, by the document's words.
func decode(b []byte) (api.Reply, api.Errno) {
	if len(b) == 0 {
		return api.Reply{}, api.ErrShort
	}
	if b[0] != head {
		return api.Reply{}, api.ErrForm
	}
	b = b[1:]
	mask, n, e := varint(b, 63)
	if e != api.OK {
		return api.Reply{}, e
	}
	if mask >= 512 {
		return api.Reply{}, api.ErrForm
	}
	b = b[n:]
	r := api.Reply{}
	for i := range nine {
		if mask&(1<<i) == 0 {
			continue
		}
		u, n, e := varint(b, 64)
		if e != api.OK {
			return api.Reply{}, e
		}
		if u == 0 {
			return api.Reply{}, api.ErrForm
		}
		v := int64(u / 2)
		if u%2 == 1 {
			v = -v - 1
		}
		set(&r, i, v)
		b = b[n:]
	}
	if len(b) > 0 {
		return api.Reply{}, api.ErrLong
	}
	return r, api.OK
}

// ends returns numbers at and beside each power of two, of both signs.
func ends() []int64 {
	l := []int64{0, math.MinInt64, math.MaxInt64}
	for i := range 63 {
		for d := int64(-1); d <= 1; d++ {
			l = append(l, 1<<i+d, -(1<<i + d))
		}
	}
	return l
}

// some returns replies: each number in each field alone, in all fields but one, in all; and each choice of fields.
func some() []api.Reply {
	l := []api.Reply{{}}
	rnd := rand.New(rand.NewSource(11))
	ns := ends()
	for _, n := range ns {
		all, mixed := api.Reply{}, api.Reply{}
		for i := range nine {
			one, but := api.Reply{}, api.Reply{}
			set(&one, i, n)
			set(&all, i, n)
			set(&mixed, i, ns[rnd.Intn(len(ns))])
			for k := range nine {
				if k != i {
					set(&but, k, n)
				}
			}
			l = append(l, one, but)
		}
		l = append(l, all, mixed)
	}
	for mask := range 512 {
		r, other := api.Reply{}, api.Reply{}
		for i := range nine {
			if mask&(1<<i) != 0 {
				set(&r, i, int64(i+1))
				set(&other, i, ns[rnd.Intn(len(ns))])
			}
		}
		l = append(l, r, other)
	}
	return l
}

// same checks that bytes are read as the document's words say.
func same(t *testing.T, b []byte) {
	t.Helper()
	want, we := decode(b)
	if r, e := reply.Read(b); r != want || e != we {
		t.Errorf("Read of % x: %v and %d, not %v and %d", b, r, e, want, we)
	}
}

// Promise 11.1.

func TestExamplesOfBytes(t *testing.T) {
	for _, x := range []struct {
		r    api.Reply
		want []byte
	}{
		{api.Reply{Err: 7}, []byte{0xb8, 0x01, 0x0e}},
		{api.Reply{}, []byte{0xb8, 0x00}},
		{api.Reply{Id: 1}, []byte{0xb8, 0x02, 0x02}},
		{api.Reply{State: 3}, []byte{0xb8, 0x04, 0x06}},
		{api.Reply{Start: -1}, []byte{0xb8, 0x08, 0x01}},
		{api.Reply{End: 150}, []byte{0xb8, 0x10, 0xac, 0x02}},
		{api.Reply{Plan: -64}, []byte{0xb8, 0x20, 0x7f}},
		{api.Reply{A: 64}, []byte{0xb8, 0x40, 0x80, 0x01}},
		{api.Reply{B: 2}, []byte{0xb8, 0x80, 0x01, 0x04}},
		{api.Reply{C: -3}, []byte{0xb8, 0x80, 0x02, 0x05}},
		{api.Reply{Err: -1, C: 1}, []byte{0xb8, 0x81, 0x02, 0x01, 0x02}},
		{
			api.Reply{Err: 1, Id: 2, State: 3, Start: 4, End: 5, Plan: 6, A: 7, B: 8, C: 9},
			[]byte{0xb8, 0xff, 0x03, 2, 4, 6, 8, 10, 12, 14, 16, 18},
		},
		{
			api.Reply{Plan: math.MinInt64},
			[]byte{0xb8, 0x20, 0xff, 0xff, 0xff, 0xff, 0xff, 0xff, 0xff, 0xff, 0xff, 0x01},
		},
	} {
		if b := reply.Bytes(x.r); !bytes.Equal(b, x.want) {
			t.Errorf("Bytes of %v: % x, not % x", x.r, b, x.want)
		}
		if r, e := reply.Read(x.want); e != api.OK || r != x.r {
			t.Errorf("Read of % x: %v and %d, not %v", x.want, r, e, x.r)
		}
	}
}

func TestBytes(t *testing.T) {
	for _, r := range some() {
		if b, want := reply.Bytes(r), encode(r); !bytes.Equal(b, want) {
			t.Errorf("Bytes of %v: % x, not % x", r, b, want)
		}
	}
}

func TestReadExamples(t *testing.T) {
	big := bytes.Repeat([]byte{0xff}, 8)
	for _, x := range []struct {
		b    []byte
		want api.Errno
	}{
		{[]byte{0xb8, 0x01}, api.ErrShort},
		{[]byte{0xb8, 0x01, 0x00}, api.ErrForm},
		{[]byte{0xb8, 0x00, 0x00}, api.ErrLong},
		// Too few bytes.
		{nil, api.ErrShort},
		{[]byte{}, api.ErrShort},
		{[]byte{0xb8}, api.ErrShort},
		{[]byte{0xb8, 0x80}, api.ErrShort},
		{[]byte{0xb8, 0xff, 0xff}, api.ErrShort},
		{[]byte{0xb8, 0x03, 0x02}, api.ErrShort},
		{[]byte{0xb8, 0x01, 0x80}, api.ErrShort},
		{[]byte{0xb8, 0x80, 0x02}, api.ErrShort},
		// Another first byte, whatever follows.
		{[]byte{0xb7}, api.ErrForm},
		{[]byte{0x00}, api.ErrForm},
		{[]byte{0x38, 0x00}, api.ErrForm},
		{[]byte{0xb9, 0x01}, api.ErrForm},
		{[]byte{0xb7, 0x00, 0x00}, api.ErrForm},
		{[]byte{0xb7, 0x80}, api.ErrForm},
		// A number that is too great, or has too many bytes.
		{[]byte{0xb8, 0x80, 0x04}, api.ErrForm},
		{[]byte{0xb8, 0x81, 0x04, 0x02}, api.ErrForm},
		{[]byte{0xb8, 0x80, 0x80, 0x01}, api.ErrForm},
		{append(append([]byte{0xb8}, big...), 0x7f), api.ErrForm},
		{append(append([]byte{0xb8}, big...), 0xff), api.ErrForm},
		{append([]byte{0xb8}, big...), api.ErrShort},
		{[]byte{0xb8, 0x80, 0x00}, api.ErrForm},
		{[]byte{0xb8, 0x81, 0x00, 0x02}, api.ErrForm},
		// A signed number that is 0, has too many bytes, or too many bits.
		{[]byte{0xb8, 0x01, 0x80, 0x00}, api.ErrForm},
		{[]byte{0xb8, 0x01, 0x82, 0x00}, api.ErrForm},
		{[]byte{0xb8, 0x03, 0x02, 0x00}, api.ErrForm},
		{[]byte{0xb8, 0x80, 0x02, 0x00}, api.ErrForm},
		{append(append([]byte{0xb8, 0x01}, big...), 0xff, 0x02), api.ErrForm},
		{append(append([]byte{0xb8, 0x01}, big...), 0xff, 0x81), api.ErrForm},
		{append(append([]byte{0xb8, 0x01}, big...), 0xff), api.ErrShort},
		// The leftmost error comes first.
		{[]byte{0xb8, 0x03, 0x00}, api.ErrForm},
		{[]byte{0xb8, 0x01, 0x00, 0x00}, api.ErrForm},
		{[]byte{0xb8, 0x80, 0x04, 0x02, 0x02}, api.ErrForm},
		// Too many bytes.
		{[]byte{0xb8, 0x01, 0x0e, 0x00}, api.ErrLong},
		{[]byte{0xb8, 0x01, 0x0e, 0x80}, api.ErrLong},
		{[]byte{0xb8, 0x00, 0xb8, 0x00}, api.ErrLong},
		{append([]byte{0xb8, 0x00}, make([]byte, 1<<16)...), api.ErrLong},
	} {
		if r, e := reply.Read(x.b); e != x.want || r != (api.Reply{}) {
			t.Errorf("Read of % x: %v and %d, not %d", x.b[:min(len(x.b), 20)], r, e, x.want)
		}
		same(t, x.b)
	}
}

// TestReadAllShort goes through all bytes of up to three, and those of four and five behind the first byte's value.
func TestReadAllShort(t *testing.T) {
	same(t, nil)
	for x := range 1 << 8 {
		same(t, []byte{byte(x)})
	}
	for x := range 1 << 16 {
		same(t, []byte{byte(x), byte(x >> 8)})
		same(t, []byte{head, byte(x), byte(x >> 8)})
		same(t, []byte{head, 3, byte(x), byte(x >> 8)})
		same(t, []byte{head, 0x40, byte(x), byte(x >> 8)})
		same(t, []byte{head, byte(x), byte(x >> 8), 2})
		same(t, []byte{head, byte(x), byte(x >> 8), 2, 4})
		same(t, []byte{head, 0x80, 2, byte(x), byte(x >> 8)})
	}
}

// TestReadEveryMask follows each number behind the first byte by so many signed numbers, also one too few or too many.
func TestReadEveryMask(t *testing.T) {
	for mask := range uint64(2048) {
		for n := range 12 {
			b := binary.AppendUvarint([]byte{head}, mask)
			for k := range n {
				b = binary.AppendVarint(b, int64(100*k-250))
			}
			same(t, b)
		}
	}
	for i := range 64 {
		b := binary.AppendUvarint([]byte{head}, 1<<i)
		same(t, b)
		same(t, append(b, 2))
		same(t, append(binary.AppendUvarint([]byte{head}, 1<<i+1), 2))
	}
}

func TestReadChanged(t *testing.T) {
	rnd := rand.New(rand.NewSource(12))
	found := map[api.Errno]int{}
	for _, r := range some() {
		for range 40 {
			b := encode(r)
			for range 1 + rnd.Intn(2) {
				k := rnd.Intn(len(b) + 1)
				switch rnd.Intn(4) {
				case 0:
					if k < len(b) {
						b[k] ^= 1 << rnd.Intn(8)
					}
				case 1:
					b = b[:k]
				case 2:
					b = slices.Insert(b, k, []byte{0, 1, 0x7f, 0x80, 0x81, 0xff}[rnd.Intn(6)])
				default:
					if k < len(b) {
						b = slices.Delete(b, k, k+1)
					}
				}
			}
			same(t, b)
			_, e := decode(b)
			found[e]++
		}
	}
	for _, e := range []api.Errno{api.OK, api.ErrShort, api.ErrLong, api.ErrForm} {
		if found[e] < 1000 {
			t.Errorf("%d came only %d times", e, found[e])
		}
	}
}

func TestReadBegun(t *testing.T) {
	for _, r := range some() {
		b := encode(r)
		for n := range b {
			if x, e := reply.Read(b[:n]); e != api.ErrShort || x != (api.Reply{}) {
				t.Errorf("Read of % x, the first %d: %v and %d", b, n, x, e)
			}
		}
		for _, c := range []byte{0, 1, 2, 0x80, head, 0xff} {
			if x, e := reply.Read(append(slices.Clone(b), c)); e != api.ErrLong || x != (api.Reply{}) {
				t.Errorf("Read of % x and %x: %v and %d", b, c, x, e)
			}
		}
	}
}

func TestBytesAreNew(t *testing.T) {
	for _, r := range []api.Reply{{}, {Err: 7}, {Id: 1, B: 1 << 40}} {
		a, b := reply.Bytes(r), reply.Bytes(r)
		a = a[:cap(a)]
		for k := range a {
			a[k] = 0xee
		}
		if c := reply.Bytes(r); !bytes.Equal(b, encode(r)) || !bytes.Equal(c, encode(r)) {
			t.Errorf("the bytes of %v are now % x and % x", r, b, c)
		}
	}
}

func TestReadLeavesItsBytes(t *testing.T) {
	for _, b := range [][]byte{encode(api.Reply{Err: 7, C: -9}), {head, 0, 0}, {head, 1}, {1, 2}} {
		// What lies behind the end of the bytes stays, too.
		room := append(slices.Clone(b), 0xee, 0xee, 0xee)
		before := slices.Clone(room)
		reply.Read(room[:len(b)])
		if !bytes.Equal(room, before) {
			t.Errorf("% x has become % x", before, room)
		}
	}
}

// Promise 11.2.

func TestJob(t *testing.T) {
	if r := reply.Job(api.Job{Width: 4, Prio: 9}); r != (api.Reply{A: 4, B: 9}) {
		t.Errorf("a job of Width 4 and Prio 9: %v", r)
	}
	if r := reply.Job(api.Job{}); r != (api.Reply{}) {
		t.Errorf("no job: %v", r)
	}
	full := api.Job{Id: 1, User: 2, Width: 3, Limit: 4, Prio: 5, State: 6, Start: 7, End: 8, Plan: 9, Nodes: 10}
	if r := reply.Job(full); r != (api.Reply{Id: 1, State: 6, Start: 7, End: 8, Plan: 9, A: 3, B: 5}) {
		t.Errorf("a full job: %v", r)
	}
	for _, n := range ends() {
		m := int(n)
		for _, x := range []struct {
			j    api.Job
			want api.Reply
		}{
			{api.Job{Id: m}, api.Reply{Id: m}},
			{api.Job{User: m}, api.Reply{}},
			{api.Job{Width: m}, api.Reply{A: m}},
			{api.Job{Limit: n}, api.Reply{}},
			{api.Job{Prio: m}, api.Reply{B: m}},
			{api.Job{State: m}, api.Reply{State: m}},
			{api.Job{Start: n}, api.Reply{Start: n}},
			{api.Job{End: n}, api.Reply{End: n}},
			{api.Job{Plan: n}, api.Reply{Plan: n}},
			{api.Job{Nodes: uint64(n)}, api.Reply{}},
		} {
			if r := reply.Job(x.j); r != x.want {
				t.Errorf("Job of %v: %v, not %v", x.j, r, x.want)
			}
		}
	}
}

func TestFail(t *testing.T) {
	for e := api.Errno(-20); e < 40; e++ {
		if r := reply.Fail(e); r != (api.Reply{Err: e}) {
			t.Errorf("Fail of %d: %v", e, r)
		}
	}
	for _, n := range ends() {
		if r := reply.Fail(api.Errno(n)); r != (api.Reply{Err: api.Errno(n)}) {
			t.Errorf("Fail of %d: %v", n, r)
		}
	}
}

func TestThree(t *testing.T) {
	if r := reply.Three(1, 2, 3); r != (api.Reply{A: 1, B: 2, C: 3}) {
		t.Errorf("Three of 1, 2 and 3: %v", r)
	}
	for _, n := range ends() {
		m := int(n)
		if r := reply.Three(m, 0, 0); r != (api.Reply{A: m}) {
			t.Errorf("Three of %d, 0 and 0: %v", m, r)
		}
		if r := reply.Three(0, m, 0); r != (api.Reply{B: m}) {
			t.Errorf("Three of 0, %d and 0: %v", m, r)
		}
		if r := reply.Three(0, 0, m); r != (api.Reply{C: m}) {
			t.Errorf("Three of 0, 0 and %d: %v", m, r)
		}
	}
}

// Promise 11.3.

func TestThereAndBack(t *testing.T) {
	for _, r := range some() {
		if x, e := reply.Read(reply.Bytes(r)); e != api.OK || x != r {
			t.Errorf("%v is %v again, with %d", r, x, e)
		}
	}
}

func TestBackAndThere(t *testing.T) {
	rnd := rand.New(rand.NewSource(13))
	read := 0
	for range 300000 {
		b := binary.AppendUvarint([]byte{head}, uint64(rnd.Intn(600)))
		for range rnd.Intn(10) {
			b = append(b, byte(rnd.Intn(1<<(1+rnd.Intn(8)))))
		}
		r, e := reply.Read(b)
		if e != api.OK {
			continue
		}
		read++
		if again := reply.Bytes(r); !bytes.Equal(again, b) {
			t.Fatalf("% x is % x again", b, again)
		}
	}
	if read < 10000 {
		t.Errorf("only %d were encodings", read)
	}
}
