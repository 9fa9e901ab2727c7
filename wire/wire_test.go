package wire_test

import (
	"bytes"
	"encoding/binary"
	"math"
	"math/big"
	"slices"
	"strings"
	"testing"

	"berthage/api"
	"berthage/wire"
)

const (
	least = math.MinInt64
	most  = math.MaxInt64
)

func repeat(s string, n int, end string) string {
	return strings.Repeat(s, n) + end
}

// some returns numbers at and beside each power of two, of both signs.
func some() []int64 {
	l := []int64{least, most}
	for i := range 63 {
		for d := int64(-2); d <= 2; d++ {
			l = append(l, 1<<i+d, -(1<<i + d))
		}
	}
	return l
}

// Promise 1.1.

func TestPut(t *testing.T) {
	for v, want := range map[int64]string{
		0:         "\x00",
		1:         "\x01",
		127:       "\x7f",
		128:       "\x80\x01",
		300:       "\xac\x02",
		16383:     "\xff\x7f",
		16384:     "\x80\x80\x01",
		1 << 56:   repeat("\x80", 8, "\x01"),
		most:      repeat("\xff", 8, "\x7f"),
		-1:        "",
		-300:      "",
		least:     "",
		least + 1: "",
	} {
		if got := wire.Put(nil, v); string(got) != want {
			t.Errorf("Put %d: %x, not %x", v, got, want)
		}
		if got := wire.Put([]byte("ab"), v); string(got) != "ab"+want {
			t.Errorf("Put %d behind ab: %x", v, got)
		}
	}
	if got := wire.Put([]byte{}, -1); len(got) != 0 {
		t.Errorf("Put -1: %x", got)
	}
}

func TestSign(t *testing.T) {
	for v, want := range map[int64]string{
		0:          "\x00",
		-1:         "\x01",
		1:          "\x02",
		-2:         "\x03",
		-3:         "\x05",
		63:         "\x7e",
		-64:        "\x7f",
		64:         "\x80\x01",
		-65:        "\x81\x01",
		150:        "\xac\x02",
		1 << 62:    repeat("\x80", 9, "\x01"),
		1<<62 - 1:  "\xfe" + repeat("\xff", 7, "\x7f"),
		-(1 << 62): repeat("\xff", 8, "\x7f"),
		most:       "\xfe" + repeat("\xff", 8, "\x01"),
		least:      repeat("\xff", 9, "\x01"),
	} {
		if got := wire.Sign(nil, v); string(got) != want {
			t.Errorf("Sign %d: %x, not %x", v, got, want)
		}
		if got := wire.Sign([]byte("ab"), v); string(got) != "ab"+want {
			t.Errorf("Sign %d behind ab: %x", v, got)
		}
	}
}

func TestPutAndSignAreVarints(t *testing.T) {
	for _, v := range some() {
		if got, want := wire.Sign(nil, v), binary.AppendVarint(nil, v); !bytes.Equal(got, want) {
			t.Errorf("Sign %d: %x, not %x", v, got, want)
		}
		if v < 0 {
			continue
		}
		if got, want := wire.Put(nil, v), binary.AppendUvarint(nil, uint64(v)); !bytes.Equal(got, want) {
			t.Errorf("Put %d: %x, not %x", v, got, want)
		}
	}
}

func TestAll(t *testing.T) {
	if got := wire.All([]byte("ab")); string(got) != "ab" {
		t.Errorf("of nothing: %x", got)
	}
	if got := wire.All(nil); len(got) != 0 {
		t.Errorf("of nothing behind nothing: %x", got)
	}
	if got := wire.All([]byte("ab"), 0, -3, 150, -1); string(got) != "ab\x00\x05\xac\x02\x01" {
		t.Errorf("of four: %x", got)
	}
	var want []byte
	for _, v := range some() {
		want = wire.Sign(want, v)
	}
	if got := wire.All(nil, some()...); !bytes.Equal(got, want) {
		t.Errorf("of many: %x, not %x", got, want)
	}
}

func TestBool(t *testing.T) {
	if got := wire.Bool(wire.Bool([]byte("ab"), true), false); string(got) != "ab\x01\x00" {
		t.Errorf("%x", got)
	}
}

func TestText(t *testing.T) {
	for s, want := range map[string]string{
		"":                     "\x00",
		"a":                    "\x01a",
		"\x00\xff\x80":         "\x03\x00\xff\x80",
		"\u00e4":               "\x02\xc3\xa4",
		repeat("x", 127, ""):   "\x7f" + repeat("x", 127, ""),
		repeat("x", 128, ""):   "\x80\x01" + repeat("x", 128, ""),
		repeat("x", 20000, ""): "\xa0\x9c\x01" + repeat("x", 20000, ""),
	} {
		if got := wire.Text([]byte("ab"), s); string(got) != "ab"+want {
			t.Errorf("Text of %d bytes: %x", len(s), got)
		}
	}
}

// Appending may use what lies behind the end of a list, and changes nothing before it.
func TestAppendKeepsWhatIsThere(t *testing.T) {
	room := append(make([]byte, 0, 64), "abc"...)
	for name, got := range map[string][]byte{
		"Put":    wire.Put(room, 300),
		"Put -1": wire.Put(room, -1),
		"Sign":   wire.Sign(room, -300),
		"All":    wire.All(room, 1, 2, 3),
		"Bool":   wire.Bool(room, true),
		"Text":   wire.Text(room, "xyz"),
	} {
		if !bytes.HasPrefix(got, []byte("abc")) {
			t.Errorf("%s: %x", name, got)
		}
	}
	if string(room) != "abc" {
		t.Errorf("changed: %x", room)
	}
	l := []int64{3, -1}
	wire.All(nil, l...)
	if !slices.Equal(l, []int64{3, -1}) {
		t.Errorf("numbers changed: %d", l)
	}
}

// Promise 1.2.

func TestByte(t *testing.T) {
	r := wire.Read([]byte("\x00\xffa"))
	if a, b, c := r.Byte(), r.Byte(), r.Byte(); a != 0 || b != 255 || c != 'a' || r.Err() != api.OK {
		t.Errorf("%d %d %d, error %d", a, b, c, r.Err())
	}
	if c := r.Byte(); c != 0 || r.Err() != api.ErrShort {
		t.Errorf("behind the end: %d, error %d", c, r.Err())
	}
}

type numeral struct {
	bytes string
	want  int64
	err   api.Errno
}

func checkNumber(t *testing.T, name string, read func(*wire.Reader) int64, x numeral) {
	t.Helper()
	r := wire.Read([]byte(x.bytes))
	if got := read(r); got != x.want || r.Err() != x.err {
		t.Errorf("%s of %x: %d, error %d; not %d, error %d", name, x.bytes, got, r.Err(), x.want, x.err)
	}
	if x.err != api.OK {
		return
	}
	r = wire.Read([]byte(x.bytes + "\x80z"))
	if got := read(r); got != x.want || r.Left() != 2 {
		t.Errorf("%s of %x with two bytes behind it: %d, %d left", name, x.bytes, got, r.Left())
	}
}

func TestNum(t *testing.T) {
	for _, x := range []numeral{
		{"\x00", 0, api.OK},
		{"\x7f", 127, api.OK},
		{"\x80\x01", 128, api.OK},
		{"\xac\x02", 300, api.OK},
		{repeat("\x80", 8, "\x01"), 1 << 56, api.OK},
		{repeat("\xff", 8, "\x7f"), most, api.OK},

		{"", 0, api.ErrShort},
		{"\x80", 0, api.ErrShort},
		{"\xff\xff", 0, api.ErrShort},
		{repeat("\x80", 8, ""), 0, api.ErrShort},
		{repeat("\xff", 8, ""), 0, api.ErrShort},

		{"\x80\x00", 0, api.ErrForm},
		{"\xff\x00", 0, api.ErrForm},
		{"\x81\x80\x00", 0, api.ErrForm},
		{repeat("\xff", 8, "\x00"), 0, api.ErrForm},
		// 2^63 and above
		{repeat("\x80", 9, "\x01"), 0, api.ErrForm},
		{repeat("\xff", 9, "\x01"), 0, api.ErrForm},
		{repeat("\xff", 9, "\x02"), 0, api.ErrForm},
		{repeat("\xff", 9, "\x7f"), 0, api.ErrForm},
		{repeat("\xff", 30, "\x01"), 0, api.ErrForm},
		// no byte behind these makes them a number
		{repeat("\x80", 9, ""), 0, api.ErrForm},
		{repeat("\xff", 9, ""), 0, api.ErrForm},
		{repeat("\x80", 9, "\x00"), 0, api.ErrForm},
		{repeat("\x80", 30, ""), 0, api.ErrForm},
	} {
		checkNumber(t, "Num", (*wire.Reader).Num, x)
	}
}

func TestReadSign(t *testing.T) {
	for _, x := range []numeral{
		{"\x00", 0, api.OK},
		{"\x01", -1, api.OK},
		{"\x02", 1, api.OK},
		{"\x05", -3, api.OK},
		{"\x7f", -64, api.OK},
		{"\x80\x01", 64, api.OK},
		{repeat("\xff", 8, "\x7f"), -(1 << 62), api.OK},
		{repeat("\x80", 9, "\x01"), 1 << 62, api.OK},
		{"\xfe" + repeat("\xff", 8, "\x01"), most, api.OK},
		{repeat("\xff", 9, "\x01"), least, api.OK},

		{"", 0, api.ErrShort},
		{"\x80", 0, api.ErrShort},
		{repeat("\x80", 9, ""), 0, api.ErrShort},
		{repeat("\xff", 9, ""), 0, api.ErrShort},

		{"\x80\x00", 0, api.ErrForm},
		{"\x81\x80\x00", 0, api.ErrForm},
		{repeat("\xff", 8, "\x00"), 0, api.ErrForm},
		{repeat("\xff", 9, "\x00"), 0, api.ErrForm},
		// 65 bits and more
		{repeat("\x80", 9, "\x02"), 0, api.ErrForm},
		{repeat("\xff", 9, "\x03"), 0, api.ErrForm},
		{repeat("\xff", 9, "\x7f"), 0, api.ErrForm},
		{repeat("\xff", 9, "\x81\x01"), 0, api.ErrForm},
		{repeat("\xff", 30, "\x01"), 0, api.ErrForm},
		// no byte behind these makes them a number
		{repeat("\x80", 10, ""), 0, api.ErrForm},
		{repeat("\xff", 9, "\x81"), 0, api.ErrForm},
		{repeat("\x80", 10, "\x00"), 0, api.ErrForm},
		{repeat("\xff", 30, ""), 0, api.ErrForm},
	} {
		checkNumber(t, "Sign", (*wire.Reader).Sign, x)
	}
}

// expect says what a number at the beginning of b is, slowly: its value, how many bytes it has, and its error.
func expect(b []byte, bits int) (*big.Int, int, api.Errno) {
	v := new(big.Int)
	for i, c := range b {
		v.Or(v, new(big.Int).Lsh(big.NewInt(int64(c&127)), uint(7*i)))
		if c >= 128 {
			continue
		}
		if c == 0 && i > 0 || v.BitLen() > bits {
			return new(big.Int), 0, api.ErrForm
		}
		return v, i + 1, api.OK
	}
	// Some byte behind b completes a number if and only if the lowest one that is not 0 does.
	one := new(big.Int).Lsh(big.NewInt(1), uint(7*len(b)))
	if v.Or(v, one).BitLen() > bits {
		return new(big.Int), 0, api.ErrForm
	}
	return new(big.Int), 0, api.ErrShort
}

// eachShort calls do with all strings of at most n of the bytes that matter.
func eachShort(n int, head string, do func(string)) {
	do(head)
	if n == 0 {
		return
	}
	for _, c := range []byte{0, 1, 2, 127, 128, 129, 255} {
		eachShort(n-1, head+string([]byte{c}), do)
	}
}

func TestNumbersOfAnyBytes(t *testing.T) {
	check := func(s string) {
		v, n, err := expect([]byte(s), 63)
		r := wire.Read([]byte(s))
		if got := r.Num(); got != v.Int64() || r.Err() != err || err == api.OK && r.Left() != len(s)-n {
			t.Fatalf("Num of %x: %d, error %d, %d left; not %d, error %d", s, got, r.Err(), r.Left(), v, err)
		}
		v, n, err = expect([]byte(s), 64)
		want := int64(v.Uint64() >> 1)
		if v.Bit(0) == 1 {
			want = -want - 1
		}
		r = wire.Read([]byte(s))
		if got := r.Sign(); got != want || r.Err() != err || err == api.OK && r.Left() != len(s)-n {
			t.Fatalf("Sign of %x: %d, error %d, %d left; not %d, error %d", s, got, r.Err(), r.Left(), want, err)
		}
	}
	eachShort(4, "", check)
	for n := 5; n < 12; n++ {
		eachShort(3, repeat("\x80", n, ""), check)
		eachShort(3, repeat("\xff", n, ""), check)
	}
}

func TestReadBool(t *testing.T) {
	r := wire.Read([]byte("\x01\x00"))
	if a, b := r.Bool(), r.Bool(); !a || b || r.End() != api.OK {
		t.Errorf("%t %t, error %d", a, b, r.Err())
	}
	if r.Bool() || r.Err() != api.ErrShort {
		t.Errorf("behind the end: error %d", r.Err())
	}
	for c := 2; c < 256; c++ {
		r := wire.Read([]byte{byte(c), 1})
		if r.Bool() || r.Err() != api.ErrForm {
			t.Errorf("of %d: error %d", c, r.Err())
		}
	}
}

func TestReadText(t *testing.T) {
	for _, x := range []struct {
		bytes string
		most  int
		want  string
		err   api.Errno
	}{
		{"\x00", 0, "", api.OK},
		{"\x02ab", 2, "ab", api.OK},
		{"\x02ab", 3, "ab", api.OK},
		{"\x02ab", math.MaxInt, "ab", api.OK},
		{"\x02\x00\xff", 2, "\x00\xff", api.OK},
		{"\x80\x01" + repeat("x", 128, ""), 128, repeat("x", 128, ""), api.OK},

		{"", 0, "", api.ErrShort},
		{"\x80", 5, "", api.ErrShort},
		{"\x80\x00", 5, "", api.ErrForm},
		{repeat("\xff", 9, ""), 5, "", api.ErrForm},
		{repeat("\xff", 9, "\x01"), math.MaxInt, "", api.ErrForm},

		{"\x03ab", 2, "", api.ErrLong},
		{"\x03abc", 2, "", api.ErrLong},
		{"\x01a", 0, "", api.ErrLong},
		{repeat("\xff", 8, "\x7f"), 5, "", api.ErrLong},

		{"\x03ab", 3, "", api.ErrShort},
		{"\x01", 1, "", api.ErrShort},
		{repeat("\xff", 8, "\x7f") + "ab", math.MaxInt, "", api.ErrShort},
	} {
		r := wire.Read([]byte(x.bytes))
		if got := r.Text(x.most); got != x.want || r.Err() != x.err {
			t.Errorf("Text %d of %x: %q, error %d; not %q, error %d", x.most, x.bytes, got, r.Err(), x.want, x.err)
		}
		if x.err == api.OK && r.Left() != 0 {
			t.Errorf("Text %d of %x: %d left", x.most, x.bytes, r.Left())
		}
	}
	r := wire.Read([]byte("\x02abc"))
	if r.Text(2) != "ab" || r.Left() != 1 || r.Byte() != 'c' {
		t.Errorf("with a byte behind it: error %d", r.Err())
	}
	for _, most := range []int{-1, math.MinInt} {
		for _, s := range []string{"", "\x00", "\x01a", "\x80\x00"} {
			if wire.Read([]byte(s)).Text(most) != "" {
				t.Errorf("Text %d of %x is a string", most, s)
			}
		}
	}
}

func checkNothing(t *testing.T, name string, r *wire.Reader, err api.Errno) {
	t.Helper()
	if c := r.Byte(); c != 0 {
		t.Errorf("%s: Byte %d", name, c)
	}
	if v := r.Num(); v != 0 {
		t.Errorf("%s: Num %d", name, v)
	}
	if v := r.Sign(); v != 0 {
		t.Errorf("%s: Sign %d", name, v)
	}
	if r.Bool() {
		t.Errorf("%s: Bool", name)
	}
	if s := r.Text(9); s != "" {
		t.Errorf("%s: Text %q", name, s)
	}
	r.Fail(api.ErrArg)
	if r.Left() != 0 || r.Err() != err || r.End() != err || r.Err() != err {
		t.Errorf("%s: %d left, error %d, not %d", name, r.Left(), r.Err(), err)
	}
}

func TestNothingAfterTheFirstError(t *testing.T) {
	for name, x := range map[string]struct {
		bytes string
		do    func(*wire.Reader)
		err   api.Errno
	}{
		"Byte":       {"", func(r *wire.Reader) { r.Byte() }, api.ErrShort},
		"Num short":  {"\x80", func(r *wire.Reader) { r.Num() }, api.ErrShort},
		"Num form":   {"\x80\x00\x01\x01\x01\x01\x01", func(r *wire.Reader) { r.Num() }, api.ErrForm},
		"Sign form":  {repeat("\x80", 9, "\x02\x01\x01\x01\x01\x01"), func(r *wire.Reader) { r.Sign() }, api.ErrForm},
		"Bool form":  {"\x02\x01\x01\x01\x01\x01", func(r *wire.Reader) { r.Bool() }, api.ErrForm},
		"Text long":  {"\x03\x01\x01\x01\x01\x01", func(r *wire.Reader) { r.Text(2) }, api.ErrLong},
		"Text short": {"\x07\x01\x01\x01\x01\x01", func(r *wire.Reader) { r.Text(7) }, api.ErrShort},
		"Fail":       {"\x01\x01\x01\x01\x01\x01", func(r *wire.Reader) { r.Fail(api.ErrQuota) }, api.ErrQuota},
		"End":        {"\x01\x01\x01\x01\x01\x01", func(r *wire.Reader) { r.End() }, api.ErrLong},
	} {
		r := wire.Read([]byte(x.bytes))
		x.do(r)
		checkNothing(t, name, r, x.err)
	}
}

// Promise 1.3.

func TestLeft(t *testing.T) {
	r := wire.Read([]byte("\x05\xac\x02\x01\x02ab"))
	var got []int
	for _, read := range []func(){
		func() { got = append(got, r.Left()) },
		func() { r.Byte() },
		func() { r.Num() },
		func() { r.Bool() },
		func() { r.Text(2) },
	} {
		read()
		got = append(got, r.Left())
	}
	if want := []int{7, 7, 6, 4, 3, 0}; !slices.Equal(got, want) {
		t.Errorf("%d, not %d", got, want)
	}
	if r.End() != api.OK {
		t.Errorf("error %d at the end", r.Err())
	}
}

func TestFailAndErr(t *testing.T) {
	r := wire.Read([]byte("ab"))
	if r.Err() != api.OK {
		t.Errorf("error %d at the beginning", r.Err())
	}
	r.Fail(api.OK)
	if r.Err() != api.OK || r.Left() != 2 || r.Byte() != 'a' {
		t.Errorf("OK is no error: %d, %d left", r.Err(), r.Left())
	}
	r.Fail(api.ErrRange)
	r.Fail(api.ErrTime)
	r.Fail(api.OK)
	if r.Err() != api.ErrRange || r.Left() != 0 || r.End() != api.ErrRange {
		t.Errorf("error %d, %d left", r.Err(), r.Left())
	}
	for _, e := range []api.Errno{-1, 99, math.MaxInt, math.MinInt} {
		r := wire.Read([]byte("ab"))
		if r.Fail(e); r.Err() != e || r.Left() != 0 {
			t.Errorf("error %d, not %d; %d left", r.Err(), e, r.Left())
		}
	}
}

func TestEnd(t *testing.T) {
	r := wire.Read([]byte("ab"))
	r.Byte()
	if r.Left() != 1 || r.End() != api.ErrLong || r.Err() != api.ErrLong || r.Left() != 0 || r.End() != api.ErrLong {
		t.Errorf("error %d, %d left", r.Err(), r.Left())
	}
	r = wire.Read([]byte("a"))
	r.Byte()
	if r.End() != api.OK || r.End() != api.OK || r.Err() != api.OK {
		t.Errorf("error %d at the end", r.Err())
	}
	r.Byte()
	if r.End() != api.ErrShort {
		t.Errorf("error %d behind the end", r.Err())
	}
	for _, b := range [][]byte{nil, {}} {
		if r := wire.Read(b); r.End() != api.OK || r.Left() != 0 {
			t.Errorf("of no bytes: error %d", r.Err())
		}
	}
}

// Promise 1.4.

func TestWhatWasEncodedIsDecoded(t *testing.T) {
	texts := []string{"", "a", "\x80\x00\xff", repeat("x", 300, "")}
	var b []byte
	for i, v := range some() {
		b = wire.Put(b, v)
		b = wire.Text(wire.Bool(wire.Sign(b, v), v < 0), texts[i%len(texts)])
	}
	b = wire.All(b, some()...)
	r := wire.Read(b)
	for i, v := range some() {
		if v >= 0 && r.Num() != v || r.Sign() != v || r.Bool() != (v < 0) || r.Text(300) != texts[i%len(texts)] {
			t.Fatalf("%d is not decoded: error %d", v, r.Err())
		}
	}
	for _, v := range some() {
		if r.Sign() != v {
			t.Fatalf("%d of All is not decoded: error %d", v, r.Err())
		}
	}
	if r.Left() != 0 || r.End() != api.OK {
		t.Errorf("%d left, error %d", r.Left(), r.End())
	}
}

func TestEachAloneIsDecoded(t *testing.T) {
	for _, v := range some() {
		r := wire.Read(wire.Sign(nil, v))
		if r.Sign() != v || r.End() != api.OK {
			t.Errorf("Sign %d: error %d", v, r.Err())
		}
		if v < 0 {
			continue
		}
		r = wire.Read(wire.Put(nil, v))
		if r.Num() != v || r.End() != api.OK {
			t.Errorf("Num %d: error %d", v, r.Err())
		}
	}
	for _, is := range []bool{false, true} {
		r := wire.Read(wire.Bool(nil, is))
		if r.Bool() != is || r.End() != api.OK {
			t.Errorf("Bool %t: error %d", is, r.Err())
		}
	}
	for n := range 400 {
		s := repeat("\xe4", n, "")
		r := wire.Read(wire.Text(nil, s))
		if r.Text(n) != s || r.End() != api.OK {
			t.Errorf("Text of %d bytes: error %d", n, r.Err())
		}
	}
}

// Rules R1 and R3.

func TestReadersThatNoCallCreated(t *testing.T) {
	for name, do := range map[string]func(*wire.Reader){
		"nothing": func(r *wire.Reader) {},
		"Byte":    func(r *wire.Reader) { r.Byte() },
		"Num":     func(r *wire.Reader) { r.Num() },
		"Sign":    func(r *wire.Reader) { r.Sign() },
		"Bool":    func(r *wire.Reader) { r.Bool() },
		"Text":    func(r *wire.Reader) { r.Text(math.MaxInt) },
		"Fail":    func(r *wire.Reader) { r.Fail(api.ErrArg) },
		"End":     func(r *wire.Reader) { r.End() },
	} {
		do(nil)
		checkNothing(t, "nil, after "+name, nil, api.ErrShort)
	}
	if r := new(wire.Reader); r.Err() != api.OK || r.End() != api.OK {
		t.Errorf("zero: error %d", r.Err())
	}
	checkNothing(t, "zero", new(wire.Reader), api.ErrShort)
}

func TestReaderHasItsOwnBytes(t *testing.T) {
	b := []byte("\x05\x02ab")
	r := wire.Read(b)
	b[0], b[2] = 1, 'z'
	if r.Sign() != -3 || r.Text(2) != "ab" || r.End() != api.OK {
		t.Errorf("the reader has changed with the list: error %d", r.Err())
	}
	if string(b) != "\x01\x02zb" {
		t.Errorf("the list was changed: %x", b)
	}
	s, other := wire.Read(b), wire.Read(b)
	s.Byte()
	if s.Left() != 3 || other.Left() != 4 {
		t.Errorf("two readers are one: %d and %d left", s.Left(), other.Left())
	}
}
