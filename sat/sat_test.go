package sat_test

import (
	"math"
	"math/big"
	"slices"
	"testing"

	"berthage/api"
	"berthage/sat"
)

const (
	least   = math.MinInt64
	most    = math.MaxInt64
	forever = 1 << 60
)

// some returns numbers of both signs, small ones and those about the limits and about the root of Forever.
func some() []int64 {
	l := []int64{least, least + 1, most, most - 1}
	for v := int64(-8); v <= 8; v++ {
		l = append(l, v)
	}
	for _, i := range []int{16, 29, 30, 31, 32, 40, 59, 60, 61, 62} {
		for d := int64(-2); d <= 2; d++ {
			l = append(l, 1<<i+d, -(1<<i + d))
		}
	}
	return append(l, forever/3-1, forever/3, forever/3+1, forever/7, forever/7+1)
}

func saturated(v *big.Int) int64 {
	if v.Sign() < 0 {
		return 0
	}
	if v.Cmp(big.NewInt(forever)) > 0 {
		return forever
	}
	return v.Int64()
}

func part(v int64) *big.Int {
	return big.NewInt(saturated(big.NewInt(v)))
}

// Promise 2.1.

func TestLimits(t *testing.T) {
	if api.Forever != forever || api.MaxTime != 1<<40 {
		t.Errorf("Forever %d, MaxTime %d", int64(api.Forever), int64(api.MaxTime))
	}
}

func TestIs(t *testing.T) {
	for v, want := range map[int64]bool{
		0:         true,
		1:         true,
		1 << 20:   true,
		1<<40 - 1: true,
		1 << 40:   true,
		1<<40 + 1: false,
		1 << 41:   false,
		forever:   false,
		most:      false,
		-1:        false,
		-1 << 40:  false,
		least:     false,
	} {
		if sat.Is(v) != want {
			t.Errorf("%d: %t", v, !want)
		}
	}
}

func TestAdd(t *testing.T) {
	for _, x := range []struct {
		l    []int64
		want int64
	}{
		{nil, 0},
		{[]int64{}, 0},
		{[]int64{0}, 0},
		{[]int64{7}, 7},
		{[]int64{-7}, 0},
		{[]int64{least}, 0},
		{[]int64{most}, forever},
		{[]int64{forever}, forever},
		{[]int64{forever - 1}, forever - 1},
		{[]int64{forever + 1}, forever},
		{[]int64{-5, 7}, 7},
		{[]int64{7, -5}, 7},
		{[]int64{7, -9, 2}, 9},
		{[]int64{1, 2, 3, 4}, 10},
		{[]int64{forever - 3, 3}, forever},
		{[]int64{forever - 3, 2}, forever - 1},
		{[]int64{forever - 3, 4}, forever},
		{[]int64{forever, -5}, forever},
		{[]int64{forever, least}, forever},
		{[]int64{most, most, most}, forever},
		{[]int64{least, least, 5}, 5},
		{[]int64{most, least, 5}, forever},
	} {
		if got := sat.Add(x.l...); got != x.want {
			t.Errorf("%d: %d, not %d", x.l, got, x.want)
		}
	}
}

// Many numbers, whose sum would be more than an int64 holds several times over.
func TestAddOfMany(t *testing.T) {
	l := slices.Repeat([]int64{forever / 2}, 100)
	if got := sat.Add(l...); got != forever {
		t.Errorf("%d", got)
	}
	if got := sat.Add(slices.Repeat([]int64{3}, 10000)...); got != 30000 {
		t.Errorf("%d, not 30000", got)
	}
}

func TestSub(t *testing.T) {
	for _, x := range [][3]int64{
		{5, 3, 2},
		{3, 5, 0},
		{5, 5, 0},
		{0, 0, 0},
		{5, 0, 5},
		{5, -3, 5},
		{-3, -5, 0},
		{-3, 0, 0},
		{forever, 1, forever - 1},
		{forever + 9, 1, forever - 1},
		{most, forever, 0},
		{most, forever + 9, 0},
		{most, least, forever},
		{least, most, 0},
		{least, least, 0},
		{most, most, 0},
		{0, least, 0},
	} {
		if got := sat.Sub(x[0], x[1]); got != x[2] {
			t.Errorf("%d and %d: %d, not %d", x[0], x[1], got, x[2])
		}
	}
}

func TestMul(t *testing.T) {
	for _, x := range [][3]int64{
		{3, 5, 15},
		{0, 5, 0},
		{0, most, 0},
		{-3, 5, 0},
		{-3, -5, 0},
		{least, least, 0},
		{least, most, 0},
		{-1, least, 0},
		{1, forever - 1, forever - 1},
		{1, forever, forever},
		{1, forever + 1, forever},
		{1, most, forever},
		{2, forever/2 - 1, forever - 2},
		{2, forever / 2, forever},
		{2, forever/2 + 1, forever},
		{3, forever / 3, forever / 3 * 3},
		{3, forever/3 + 1, forever},
		{1 << 30, 1 << 30, forever},
		{1<<30 - 1, 1<<30 + 1, forever - 1},
		{1 << 31, 1 << 31, forever},
		{1 << 32, 1 << 32, forever},
		{1 << 33, 1 << 31, forever},
		{1 << 40, 1 << 40, forever},
		{forever, forever, forever},
		{most, most, forever},
	} {
		if got := sat.Mul(x[0], x[1]); got != x[2] {
			t.Errorf("%d and %d: %d, not %d", x[0], x[1], got, x[2])
		}
		if got := sat.Mul(x[1], x[0]); got != x[2] {
			t.Errorf("%d and %d: %d, not %d", x[1], x[0], got, x[2])
		}
	}
}

func TestCeil(t *testing.T) {
	for _, x := range [][3]int64{
		{7, 2, 4},
		{6, 2, 3},
		{1, 2, 1},
		{1, 1, 1},
		{7, 7, 1},
		{8, 7, 2},
		{0, 2, 0},
		{2, 0, 0},
		{0, 0, 0},
		{-7, 2, 0},
		{7, -2, 0},
		{-7, -2, 0},
		{least, -1, 0},
		{least, 1, 0},
		{1, least, 0},
		{most, 1, most}, // a quotient is not saturated
		{most, 2, 1 << 62},
		{most - 1, 2, 1<<62 - 1},
		{most, most, 1},
		{most, most - 1, 2},
		{1, most, 1},
		{forever + 1, forever, 2},
		{forever + 1, 1, forever + 1},
	} {
		if got := sat.Ceil(x[0], x[1]); got != x[2] {
			t.Errorf("%d by %d: %d, not %d", x[0], x[1], got, x[2])
		}
	}
}

func TestLeast(t *testing.T) {
	for _, x := range []struct {
		l    []int64
		want int64
	}{
		{nil, forever},
		{[]int64{}, forever},
		{[]int64{5}, 5},
		{[]int64{5, 3, 9}, 3},
		{[]int64{3, 5, 9}, 3},
		{[]int64{9, 5, 3}, 3},
		{[]int64{0, 5}, 0},
		{[]int64{-5, 5}, -5}, // the elements are not saturated
		{[]int64{5, least}, least},
		{[]int64{forever}, forever},
		{[]int64{forever - 1, most}, forever - 1},
		{[]int64{forever + 1}, forever},
		{[]int64{most, most}, forever},
	} {
		if got := sat.Least(x.l...); got != x.want {
			t.Errorf("%d: %d, not %d", x.l, got, x.want)
		}
	}
}

// The same as by numbers of any length.
func TestSumsProductsAndQuotients(t *testing.T) {
	one := big.NewInt(1)
	for _, a := range some() {
		for _, b := range some() {
			x, y := part(a), part(b)
			if got, want := sat.Add(a, b), saturated(new(big.Int).Add(x, y)); got != want {
				t.Errorf("Add %d and %d: %d, not %d", a, b, got, want)
			}
			if got, want := sat.Sub(a, b), saturated(new(big.Int).Sub(x, y)); got != want {
				t.Errorf("Sub %d and %d: %d, not %d", a, b, got, want)
			}
			// Only the product is saturated here: its factors are as they are, from 0 on.
			p := new(big.Int).Mul(big.NewInt(max(a, 0)), big.NewInt(max(b, 0)))
			if got, want := sat.Mul(a, b), saturated(p); got != want {
				t.Errorf("Mul %d and %d: %d, not %d", a, b, got, want)
			}
			if a < 1 || b < 1 {
				continue
			}
			q, rest := new(big.Int).QuoRem(big.NewInt(a), big.NewInt(b), new(big.Int))
			if rest.Sign() != 0 {
				q.Add(q, one)
			}
			if got := sat.Ceil(a, b); got != q.Int64() {
				t.Errorf("Ceil %d by %d: %d, not %d", a, b, got, q)
			}
		}
	}
}

func TestListsAreKept(t *testing.T) {
	l := []int64{most, -3, 5, least}
	sat.Add(l...)
	sat.Least(l...)
	if !slices.Equal(l, []int64{most, -3, 5, least}) {
		t.Errorf("changed: %d", l)
	}
}

// Promise 2.2.

func TestClamp(t *testing.T) {
	for _, x := range [][4]int64{
		{5, 1, 3, 3},
		{5, 7, 3, 7}, // the wrong way round: low, wherever v is
		{1, 7, 3, 7},
		{9, 7, 3, 7},
		{3, 7, 3, 7},
		{7, 7, 3, 7},
		{2, 1, 3, 2},
		{1, 1, 3, 1},
		{3, 1, 3, 3},
		{0, 1, 3, 1},
		{-5, -3, 3, -3}, // nothing is saturated
		{-2, -3, 3, -2},
		{5, -3, -1, -1},
		{most, forever, most, most},
		{5, 5, 5, 5},
		{4, 5, 5, 5},
		{6, 5, 5, 5},
		{least, least, most, least},
		{most, least, most, most},
		{0, most, least, most},
	} {
		if got := sat.Clamp(x[0], x[1], x[2]); got != x[3] {
			t.Errorf("%d from %d to %d: %d, not %d", x[0], x[1], x[2], got, x[3])
		}
	}
}

func clamped(v, low, high int64) int64 {
	switch {
	case v < low || high < low:
		return low
	case v > high:
		return high
	}
	return v
}

func TestClampOfAll(t *testing.T) {
	l := []int64{least, -forever, -2, -1, 0, 1, 2, 1 << 40, forever, most}
	for _, v := range l {
		for _, low := range l {
			for _, high := range l {
				if got, want := sat.Clamp(v, low, high), clamped(v, low, high); got != want {
					t.Errorf("%d from %d to %d: %d, not %d", v, low, high, got, want)
				}
			}
		}
	}
}

func TestMeet(t *testing.T) {
	for _, x := range [][6]int64{ // the intervals, and where they meet; 0 and 0 for nowhere
		{2, 8, 5, 9, 5, 8},
		{5, 9, 2, 8, 5, 8},
		{2, 9, 5, 8, 5, 8},
		{5, 8, 2, 9, 5, 8},
		{5, 8, 5, 8, 5, 8},
		{2, 5, 5, 9, 0, 0},
		{5, 9, 2, 5, 0, 0},
		{2, 6, 5, 9, 5, 6},
		{2, 4, 6, 9, 0, 0},
		{6, 9, 2, 4, 0, 0},
		{5, 5, 2, 9, 0, 0},
		{2, 9, 5, 5, 0, 0},
		{8, 2, 0, 9, 0, 0},
		{0, 9, 8, 2, 0, 0},
		{9, 2, 8, 1, 0, 0},
		{-9, -2, -5, 3, -5, -2}, // nothing is saturated
		{0, 3, -3, 1, 0, 1},
		{-3, 0, -1, 5, -1, 0},
		{least, most, 4, 7, 4, 7},
		{least, most, least, most, least, most},
		{most, least, most, least, 0, 0},
		{forever, most, 0, forever + 5, forever, forever + 5},
	} {
		from, to, ok := sat.Meet(x[0], x[1], x[2], x[3])
		if from != x[4] || to != x[5] || ok != (x[4] < x[5]) {
			t.Errorf("%d: %d, %d, %t", x, from, to, ok)
		}
	}
}

// What two intervals have in common is what is in both of them, time by time.
func TestMeetIsWhatIsInBoth(t *testing.T) {
	const n = 5
	for i := range n * n * n * n {
		a, b, c, d := int64(i%n), int64(i/n%n), int64(i/n/n%n), int64(i/n/n/n)
		from, to, ok := sat.Meet(a, b, c, d)
		found := false
		for v := range int64(n) {
			both := a <= v && v < b && c <= v && v < d
			found = found || both
			if both != (from <= v && v < to) {
				t.Errorf("%d to %d and %d to %d: %d to %d", a, b, c, d, from, to)
			}
		}
		if ok != found || !ok && (from != 0 || to != 0) {
			t.Errorf("%d to %d and %d to %d: %d, %d, %t", a, b, c, d, from, to, ok)
		}
	}
}

func TestArea(t *testing.T) {
	for _, x := range [][4]int64{
		{3, 2, 6, 12},
		{1, 2, 6, 4},
		{0, 2, 6, 0},
		{-1, 2, 6, 0},
		{math.MinInt, 2, 6, 0},
		{3, 6, 2, 0},
		{3, 6, 6, 0},
		{-3, 6, 2, 0},
		{3, -2, 6, 18},
		{3, -6, -2, 0},
		{1, 0, forever, forever},
		{1, 1, forever, forever - 1},
		{1, 1, most, forever - 1},
		{1, least, most, forever},
		{2, 0, forever / 2, forever},
		{2, 1, forever / 2, forever - 2},
		{64, 0, 1 << 40, 1 << 46},
		{64, 0, forever, forever},
		{math.MaxInt, 0, 1 << 40, forever},
		{math.MaxInt, 5, 5, 0},
	} {
		if got := sat.Area(int(x[0]), x[1], x[2]); got != x[3] {
			t.Errorf("%d from %d to %d: %d, not %d", x[0], x[1], x[2], got, x[3])
		}
	}
}

// Promise 2.3.

func TestNeverLessThanAPart(t *testing.T) {
	check := func(name string, a, b, got int64, parts ...int64) {
		t.Helper()
		if got < 0 || got > forever {
			t.Errorf("%s of %d and %d: %d", name, a, b, got)
		}
		for _, v := range parts {
			if got < saturated(big.NewInt(v)) {
				t.Errorf("%s of %d and %d: %d, less than %d", name, a, b, got, v)
			}
		}
	}
	for _, a := range some() {
		for _, b := range some() {
			check("sum", a, b, sat.Add(a, b), a, b)
			check("sum of three", a, b, sat.Add(a, b, a), a, b)
			check("difference", a, b, sat.Sub(a, b))
			if b >= 1 {
				check("product", a, b, sat.Mul(a, b), a)
				check("product", b, a, sat.Mul(b, a), a)
			} else {
				check("product", a, b, sat.Mul(a, b))
			}
		}
	}
}
