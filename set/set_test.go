package set_test

import (
	"math"
	"math/rand"
	"slices"
	"testing"

	"berthage/set"
)

const full = set.Set(math.MaxUint64)

// numbers returns all nodes, and numbers beyond both ends of them.
func numbers() []int {
	l := []int{math.MinInt, math.MinInt + 1, math.MinInt32, -1 << 31, -256, -128, -65, -64, -63}
	for n := -3; n <= 67; n++ {
		l = append(l, n)
	}
	return append(l, 127, 128, 129, 255, 256, 1<<31, 1<<32, 1<<32+5, math.MaxInt-1, math.MaxInt)
}

func isNode(n int) bool {
	return n >= 0 && n <= 63
}

// sets returns the sets that lie at an edge, and many others: of few nodes, of many, and of long runs.
func sets() []set.Set {
	l := []set.Set{0, full, full - 1, full >> 1, 1<<63 | 1, 0x5555555555555555, 0xaaaaaaaaaaaaaaaa, 0b11010}
	for n := range 64 {
		l = append(l, 1<<n, full^1<<n, 1<<n-1, full<<n)
	}
	r := rand.New(rand.NewSource(3))
	for range 300 {
		a, b := r.Uint64(), r.Uint64()
		long := full << r.Intn(64) >> r.Intn(64)
		l = append(l, set.Set(a), set.Set(a&b), set.Set(a|b), long, long&^set.Set(a&b), long|set.Set(a&b))
	}
	return l
}

// nodes are the nodes of a set, one bit after the other.
func nodes(s set.Set) []int {
	var l []int
	for n := 0; s != 0; n++ {
		if s%2 == 1 {
			l = append(l, n)
		}
		s /= 2
	}
	return l
}

// Promise 3.1.

func TestOf(t *testing.T) {
	for _, x := range []struct {
		l    []int
		want set.Set
	}{
		{nil, 0},
		{[]int{}, 0},
		{[]int{0}, 1},
		{[]int{63}, 1 << 63},
		{[]int{1, 3, 4}, 0b11010},
		{[]int{4, 1, 3}, 0b11010},
		{[]int{3, 3, 3}, 0b1000},
		{[]int{64}, 0},
		{[]int{-1}, 0},
		{[]int{64, 65, 128, -64, math.MinInt, math.MaxInt}, 0},
		{[]int{-1, 2, 64, 63, 1 << 32}, 1<<63 | 1<<2},
	} {
		if got := set.Of(x.l...); got != x.want {
			t.Errorf("%d: %b, not %b", x.l, got, x.want)
		}
	}
	if got := set.Of(numbers()...); got != full {
		t.Errorf("of all numbers: %b", got)
	}
}

func TestOfKeepsItsList(t *testing.T) {
	l := []int{5, -1, 64, 2}
	set.Of(l...)
	if !slices.Equal(l, []int{5, -1, 64, 2}) {
		t.Errorf("changed: %d", l)
	}
}

func TestAll(t *testing.T) {
	for n, want := range map[int]set.Set{
		0:           0,
		1:           1,
		3:           7,
		62:          full >> 2,
		63:          full >> 1,
		64:          full,
		65:          full,
		99:          full,
		128:         full,
		math.MaxInt: full,
		-1:          0,
		-64:         0,
		math.MinInt: 0,
	} {
		if got := set.All(n); got != want {
			t.Errorf("%d: %b, not %b", n, got, want)
		}
	}
	for n := range 65 {
		if got := set.All(n); got.Len() != n || n > 0 && got.High() != n-1 {
			t.Errorf("%d: %b", n, got)
		}
	}
}

func TestHasWithWithout(t *testing.T) {
	for _, s := range sets() {
		l := nodes(s)
		for _, n := range numbers() {
			has := slices.Contains(l, n)
			if s.Has(n) != has {
				t.Fatalf("%b has %d: %t", s, n, !has)
			}
			with, without := nodes(s.With(n)), nodes(s.Without(n))
			more := slices.Clone(l)
			if isNode(n) && !has {
				more = append(more, n)
				slices.Sort(more)
			}
			if !slices.Equal(with, more) {
				t.Fatalf("%b with %d: %d", s, n, with)
			}
			less := slices.DeleteFunc(slices.Clone(l), func(m int) bool { return m == n })
			if !slices.Equal(without, less) {
				t.Fatalf("%b without %d: %d", s, n, without)
			}
		}
	}
}

// With and Without return another set, and leave the one that they are called of.
func TestSetsAreValues(t *testing.T) {
	s := set.Of(1, 3)
	s.With(5)
	s.Without(1)
	s.First(1)
	s.Run(1)
	if s != 0b1010 {
		t.Errorf("changed: %b", s)
	}
}

func TestLenLowHigh(t *testing.T) {
	for _, s := range sets() {
		l := nodes(s)
		low, high := -1, -1
		if len(l) > 0 {
			low, high = l[0], l[len(l)-1]
		}
		if s.Len() != len(l) || s.Low() != low || s.High() != high {
			t.Errorf("%b: %d nodes from %d to %d", s, s.Len(), s.Low(), s.High())
		}
	}
}

func TestLenLowHighAtTheEdges(t *testing.T) {
	for _, x := range []struct {
		s              set.Set
		len, low, high int
	}{
		{0, 0, -1, -1},
		{1, 1, 0, 0},
		{1 << 63, 1, 63, 63},
		{1<<63 | 1, 2, 0, 63},
		{full, 64, 0, 63},
		{0b11010, 3, 1, 4},
	} {
		if x.s.Len() != x.len || x.s.Low() != x.low || x.s.High() != x.high {
			t.Errorf("%b: %d nodes from %d to %d", x.s, x.s.Len(), x.s.Low(), x.s.High())
		}
	}
}

// Promise 3.2.

func TestFirst(t *testing.T) {
	for _, s := range sets() {
		l := nodes(s)
		for _, n := range numbers() {
			got, ok := s.First(n)
			want := []int(nil)
			if n >= 0 && n <= len(l) {
				want = l[:n]
			}
			if ok != (n >= 0 && n <= len(l)) || !slices.Equal(nodes(got), want) {
				t.Fatalf("%b, first %d: %b, %t", s, n, got, ok)
			}
		}
	}
}

func TestFirstAtTheEdges(t *testing.T) {
	for _, x := range []struct {
		s    set.Set
		n    int
		want set.Set
		ok   bool
	}{
		{0b11010, 2, 0b1010, true},
		{0b11010, 3, 0b11010, true},
		{0b11010, 4, 0, false},
		{0b11010, 0, 0, true},
		{0b11010, -1, 0, false},
		{0, 0, 0, true},
		{0, 1, 0, false},
		{full, 64, full, true},
		{full, 65, 0, false},
		{1 << 63, 1, 1 << 63, true},
	} {
		if got, ok := x.s.First(x.n); got != x.want || ok != x.ok {
			t.Errorf("%b, first %d: %b, %t", x.s, x.n, got, ok)
		}
	}
}

func TestList(t *testing.T) {
	for _, s := range sets() {
		if got := s.List(); !slices.Equal(got, nodes(s)) {
			t.Errorf("%b: %d", s, got)
		}
	}
	if got := set.Of(63, 0, 7).List(); !slices.Equal(got, []int{0, 7, 63}) {
		t.Errorf("%d", got)
	}
}

func TestListIsNew(t *testing.T) {
	s := set.Of(1, 3, 4)
	s.List()[0] = 9
	if got := s.List(); !slices.Equal(got, []int{1, 3, 4}) {
		t.Errorf("%d", got)
	}
}

func TestEach(t *testing.T) {
	for _, s := range sets() {
		l := nodes(s)
		for most := 1; most <= len(l)+1; most++ {
			var got []int
			s.Each(func(n int) bool {
				got = append(got, n)
				return len(got) < most
			})
			if !slices.Equal(got, l[:min(most, len(l))]) {
				t.Fatalf("%b, stopped after %d: %d", s, most, got)
			}
		}
	}
}

// A set is ranged over, also within a loop over another one, which goes on afterwards.
func TestRangeOverEach(t *testing.T) {
	var got []int
outer:
	for a := range set.Of(0, 2, 63).Each {
		for b := range set.Of(1, 2, 5).Each {
			if b > a+1 {
				continue outer
			}
			if a == 63 && b == 2 {
				break outer
			}
			got = append(got, a, b)
		}
	}
	if !slices.Equal(got, []int{0, 1, 2, 1, 2, 2, 63, 1}) {
		t.Errorf("%d", got)
	}
}

// No call panics, whatever it is given; a yield that panics ends it.
func TestEachOfNilAndOfPanics(t *testing.T) {
	set.Of(1, 3).Each(nil)
	set.Set(0).Each(nil)
	var got []int
	set.Of(1, 3, 4).Each(func(n int) bool {
		got = append(got, n)
		if n == 3 {
			panic("of the test")
		}
		return true
	})
	if !slices.Equal(got, []int{1, 3}) {
		t.Errorf("%d", got)
	}
}

// lowestRun looks for n nodes, one after the other, from each node on.
func lowestRun(s set.Set, n int) ([]int, bool) {
	for low := 0; n >= 0 && low+n <= 64; low++ {
		l := []int{}
		for k := low; k < low+n && s>>k%2 == 1; k++ {
			l = append(l, k)
		}
		if len(l) == n {
			return l, true
		}
	}
	return nil, false
}

func TestRun(t *testing.T) {
	for _, s := range sets() {
		for n := -2; n <= 66; n++ {
			got, ok := s.Run(n)
			want, is := lowestRun(s, n)
			if ok != is || !slices.Equal(nodes(got), want) {
				t.Fatalf("%b, run of %d: %b, %t", s, n, got, ok)
			}
		}
	}
}

func TestRunAtTheEdges(t *testing.T) {
	for _, x := range []struct {
		s    set.Set
		n    int
		want set.Set
		ok   bool
	}{
		{0b11010, 2, 0b11000, true},
		{0b11010, 1, 0b10, true},
		{0b11010, 3, 0, false},
		{0b11010, 0, 0, true},
		{0, 0, 0, true},
		{0, 1, 0, false},
		{full, 0, 0, true},
		{full, 64, full, true},
		{full, 65, 0, false},
		{full, -1, 0, false},
		{full, math.MinInt, 0, false},
		{full, math.MaxInt, 0, false},
		{full, math.MaxInt - 63, 0, false},
		{full - 1, 63, full - 1, true},
		{full >> 1, 63, full >> 1, true},
		{full >> 1, 64, 0, false},
		{3 << 62, 2, 3 << 62, true},
		{3 << 62, 3, 0, false},
		{1<<63 | 1, 2, 0, false}, // node 63 is not followed by node 0
		{0b111011, 3, 0b111000, true},
		{0b111011, 2, 0b11, true}, // the lowest one, not the longest one
	} {
		if got, ok := x.s.Run(x.n); got != x.want || ok != x.ok {
			t.Errorf("%b, run of %d: %b, %t", x.s, x.n, got, ok)
		}
	}
}

// Promise 3.3.

func TestApart(t *testing.T) {
	for _, x := range []struct {
		l    []set.Set
		want bool
	}{
		{nil, true},
		{[]set.Set{}, true},
		{[]set.Set{0}, true},
		{[]set.Set{full}, true},
		{[]set.Set{1, 2, 4}, true},
		{[]set.Set{1, 6, 2}, false},
		{[]set.Set{2, 6, 1}, false},
		{[]set.Set{2, 1, 6}, false}, // only the first one and the last one
		{[]set.Set{1, 1}, false},
		{[]set.Set{3, 6}, false}, // neither contains the other
		{[]set.Set{1, 3, 2}, false},
		{[]set.Set{0, 0, 0}, true},
		{[]set.Set{full, 0}, true},
		{[]set.Set{0, full, 0}, true},
		{[]set.Set{full, 1 << 63}, false},
		{[]set.Set{1 << 63, 0, 1 << 63}, false},
		{[]set.Set{full >> 1, 1 << 63}, true},
		{[]set.Set{3, 3, 3}, false}, // three times, not only twice
	} {
		if got := set.Apart(x.l...); got != x.want {
			t.Errorf("%b: %t", x.l, got)
		}
	}
}

func TestApartOfMany(t *testing.T) {
	var l []set.Set
	for n := range 64 {
		l = append(l, 1<<n)
	}
	if !set.Apart(l...) {
		t.Error("64 sets of one node each")
	}
	for n := range l {
		m := append(slices.Clone(l), l[n])
		if set.Apart(m...) {
			t.Errorf("node %d twice", n)
		}
	}
	if l[5] != 1<<5 || len(l) != 64 {
		t.Errorf("changed: %b", l)
	}
}

func TestApartInPairs(t *testing.T) {
	l := sets()
	for i := range len(l) - 2 {
		a, b, c := l[i], l[i+1]&^l[i], l[i+2]
		if !set.Apart(a, b) {
			t.Errorf("%b and %b", a, b)
		}
		if want := a&c == 0 && b&c == 0; set.Apart(a, b, c) != want || set.Apart(c, a, b) != want {
			t.Errorf("%b, %b and %b: %t", a, b, c, !want)
		}
	}
}
