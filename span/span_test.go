package span_test

import (
	"math"
	"math/big"
	"math/rand"
	"slices"
	"testing"

	"berthage/api"
	"berthage/span"
)

const (
	least   = math.MinInt64
	most    = math.MaxInt64
	forever = 1 << 60
)

// example returns the spans of the document's example.
func example() []api.Span {
	return []api.Span{{From: 0, To: 10, Width: 2}, {From: 5, To: 8, Width: 3}}
}

// wrong returns spans that are not valid, each for one reason, or for several.
func wrong() []api.Span {
	return []api.Span{
		{},
		{From: 0, To: 10, Width: 0},
		{From: 0, To: 10, Width: -1},
		{From: 0, To: 10, Width: 65},
		{From: 0, To: 10, Width: math.MinInt},
		{From: 0, To: 10, Width: math.MaxInt},
		{From: -1, To: 10, Width: 2},
		{From: -10, To: -1, Width: 2},
		{From: least, To: 10, Width: 2},
		{From: 0, To: 0, Width: 2},
		{From: 10, To: 10, Width: 2},
		{From: forever, To: forever, Width: 2},
		{From: 10, To: 0, Width: 2},
		{From: most, To: least, Width: 2},
		{From: 0, To: forever + 1, Width: 2},
		{From: forever, To: forever + 1, Width: 2},
		{From: 0, To: most, Width: 2},
		{From: least, To: most, Width: 2},
	}
}

// mixed returns spans about the times 0 to 12, some of which are not valid.
func mixed(r *rand.Rand) []api.Span {
	var l []api.Span
	for range r.Intn(9) {
		l = append(l, api.Span{From: int64(r.Intn(14) - 1), To: int64(r.Intn(14) - 1), Width: r.Intn(5)})
	}
	if r.Intn(3) == 0 {
		l = append(l, wrong()[r.Intn(len(wrong()))])
	}
	return l
}

// edges returns times of both signs, and those at the limits.
func edges() []int64 {
	l := []int64{least, least + 1, -1 << 40, 1<<40 - 1, 1 << 40, 1<<40 + 1, 1 << 41, forever - 1, forever, forever + 1, most - 1, most}
	for v := int64(-3); v <= 14; v++ {
		l = append(l, v)
	}
	return l
}

// used counts the nodes that are used at a time, from the document's words alone.
func used(t int64, l []api.Span) int {
	n := 0
	for _, s := range l {
		if s.From < 0 || s.To <= s.From || s.To > forever || s.Width < 1 || s.Width > 64 {
			continue
		}
		if t >= s.From && t <= s.To-1 {
			n += s.Width
		}
	}
	return n
}

// Promise 4.1.

func TestRight(t *testing.T) {
	for _, s := range []api.Span{
		{From: 0, To: 1, Width: 1},
		{From: 0, To: 10, Width: 2},
		{From: 9, To: 10, Width: 64},
		{From: 0, To: forever, Width: 64},
		{From: forever - 1, To: forever, Width: 1},
		{From: 1 << 40, To: 1<<40 + 1, Width: 1},
		{From: 1 << 41, To: 1 << 42, Width: 63},
	} {
		if !span.Right(s) {
			t.Errorf("%v is not valid", s)
		}
	}
	for _, s := range wrong() {
		if span.Right(s) {
			t.Errorf("%v is valid", s)
		}
	}
}

func TestAt(t *testing.T) {
	l := example()
	for at, want := range map[int64]int{
		least: 0, -1: 0, 0: 2, 4: 2, 5: 5, 7: 5, 8: 2, 9: 2, 10: 0, 11: 0, forever: 0, most: 0,
	} {
		if got := span.At(at, l...); got != want {
			t.Errorf("at %d: %d, not %d", at, got, want)
		}
	}
	for at, want := range map[int64]int{-1: 0, 0: 64, forever - 1: 64, forever: 0, most: 0} {
		if got := span.At(at, api.Span{From: 0, To: forever, Width: 64}); got != want {
			t.Errorf("of a span to Forever, at %d: %d, not %d", at, got, want)
		}
	}
	if got := span.At(5); got != 0 {
		t.Errorf("of none: %d", got)
	}
}

// More nodes may be used than there are: a sum is not limited, and the same span counts each time.
func TestAtOfMany(t *testing.T) {
	l := slices.Repeat([]api.Span{{From: 3, To: 7, Width: 64}}, 1000)
	if got := span.At(6, l...); got != 64000 {
		t.Errorf("%d", got)
	}
}

func TestTimes(t *testing.T) {
	for _, x := range []struct {
		l    []api.Span
		want []int64
	}{
		{nil, nil},
		{[]api.Span{}, nil},
		{wrong(), nil},
		{example(), []int64{0, 5, 8, 10}},
		{[]api.Span{{From: 0, To: forever, Width: 1}}, []int64{0, forever}},
		{[]api.Span{{From: 7, To: 9, Width: 1}, {From: 1, To: 3, Width: 1}}, []int64{1, 3, 7, 9}},
		{[]api.Span{{From: 3, To: 9, Width: 1}, {From: 1, To: 3, Width: 1}, {From: 1, To: 9, Width: 5}}, []int64{1, 3, 9}},
		// The number of nodes does not change at 5, but a span ends there and another one begins.
		{[]api.Span{{From: 0, To: 5, Width: 2}, {From: 5, To: 9, Width: 2}}, []int64{0, 5, 9}},
		{slices.Repeat(example(), 3), []int64{0, 5, 8, 10}},
	} {
		if got := span.Times(x.l...); !slices.Equal(got, x.want) {
			t.Errorf("%v: %d, not %d", x.l, got, x.want)
		}
	}
}

func TestLast(t *testing.T) {
	for _, x := range []struct {
		l    []api.Span
		want int64
	}{
		{nil, 0},
		{[]api.Span{}, 0},
		{wrong(), 0},
		{example(), 10},
		{[]api.Span{{From: 5, To: 8, Width: 3}, {From: 0, To: 10, Width: 2}}, 10},
		{[]api.Span{{From: 0, To: 1, Width: 1}}, 1},
		{[]api.Span{{From: 0, To: 4, Width: 1}, {From: 0, To: 9, Width: 65}}, 4},
		{[]api.Span{{From: 0, To: forever, Width: 1}, {From: 1, To: 2, Width: 1}}, forever},
	} {
		if got := span.Last(x.l...); got != x.want {
			t.Errorf("%v: %d, not %d", x.l, got, x.want)
		}
	}
}

// Promise 4.2.

func TestPeak(t *testing.T) {
	l := example()
	for _, x := range []struct {
		from, to int64
		want     int
	}{
		{8, 20, 2},
		{0, 20, 5},
		{0, 5, 2},
		{0, 6, 5},
		{7, 8, 5},
		{6, 7, 5}, // nothing begins in between
		{8, 9, 2},
		{9, 10, 2},
		{10, 20, 0},
		{10, 11, 0},
		{-5, 0, 0},
		{-5, 1, 2},
		{5, 5, 0},
		{6, 5, 0},
		{20, 0, 0},
		{least, most, 5},
		{most, least, 0},
		{least, least, 0},
		{most, most, 0},
	} {
		if got := span.Peak(x.from, x.to, l...); got != x.want {
			t.Errorf("from %d to %d: %d, not %d", x.from, x.to, got, x.want)
		}
	}
	if got := span.Peak(0, 20); got != 0 {
		t.Errorf("of none: %d", got)
	}
	if got := span.Peak(least, most, wrong()...); got != 0 {
		t.Errorf("of spans that are not valid: %d", got)
	}
}

// A span that begins where another one ends does not come on top of it, in whichever order they are.
func TestPeakWhereSpansMeet(t *testing.T) {
	l := []api.Span{{From: 5, To: 9, Width: 3}, {From: 0, To: 5, Width: 4}, {From: 9, To: 12, Width: 2}}
	for range 3 {
		if got := span.Peak(0, 20, l...); got != 4 {
			t.Errorf("%v: %d", l, got)
		}
		if got := span.Peak(5, 20, l...); got != 3 {
			t.Errorf("%v from 5: %d", l, got)
		}
		l = append(l[1:], l[0])
	}
}

// What spans may use does not end with the limit of times.
func TestPeakBeyondTheTimes(t *testing.T) {
	l := []api.Span{{From: 1 << 41, To: forever, Width: 7}}
	for _, x := range [][3]int64{
		{1 << 40, 1 << 41, 0},
		{1 << 40, 1<<41 + 1, 7},
		{forever - 1, forever, 7},
		{forever - 1, most, 7},
		{forever, most, 0},
	} {
		if got := span.Peak(x[0], x[1], l...); got != int(x[2]) {
			t.Errorf("from %d to %d: %d, not %d", x[0], x[1], got, x[2])
		}
	}
}

func TestPeakIsTheMostAtATime(t *testing.T) {
	r := rand.New(rand.NewSource(4))
	for range 300 {
		l := mixed(r)
		for from := int64(-2); from <= 14; from++ {
			for to := int64(-2); to <= 14; to++ {
				want := 0
				for at := from; at < to; at++ {
					want = max(want, used(at, l))
				}
				if got := span.Peak(from, to, l...); got != want {
					t.Fatalf("%v from %d to %d: %d, not %d", l, from, to, got, want)
				}
			}
		}
	}
}

func TestArea(t *testing.T) {
	l := example()
	for _, x := range [][3]int64{
		{0, 20, 29},
		{0, 10, 29},
		{0, 5, 10},
		{0, 6, 15},
		{6, 7, 5},
		{7, 9, 7},
		{8, 20, 4},
		{9, forever, 2},
		{10, 20, 0},
		{5, 5, 0},
		{6, 5, 0},
		{20, 0, 0},
		{0, 0, 0},
		{0, forever, 29},
		{forever, 0, 0},
		{forever, forever, 0},
	} {
		if got := span.Area(x[0], x[1], l...); got != x[2] {
			t.Errorf("from %d to %d: %d, not %d", x[0], x[1], got, x[2])
		}
	}
	if got := span.Area(0, forever); got != 0 {
		t.Errorf("of none: %d", got)
	}
	if got := span.Area(0, forever, wrong()...); got != 0 {
		t.Errorf("of spans that are not valid: %d", got)
	}
}

func TestAreaIsSaturated(t *testing.T) {
	whole := api.Span{From: 0, To: forever, Width: 1}
	half := api.Span{From: 0, To: forever / 2, Width: 1}
	for _, x := range []struct {
		from, to int64
		l        []api.Span
		want     int64
	}{
		{0, forever, []api.Span{whole}, forever},
		{1, forever, []api.Span{whole}, forever - 1},
		{0, forever - 1, []api.Span{whole}, forever - 1},
		{0, forever, []api.Span{whole, whole}, forever},
		{0, forever, slices.Repeat([]api.Span{whole}, 100), forever},
		{0, forever, []api.Span{half, half}, forever},
		{0, forever, []api.Span{half, half, half}, forever},
		{1, forever, []api.Span{half, half}, forever - 2},
		{0, forever, []api.Span{{From: 0, To: forever, Width: 64}}, forever},
		{1, forever, []api.Span{{From: 0, To: forever, Width: 64}, {From: 0, To: forever, Width: 64}}, forever},
		{0, 1 << 40, []api.Span{{From: 0, To: forever, Width: 64}}, 1 << 46},
	} {
		if got := span.Area(x.from, x.to, x.l...); got != x.want {
			t.Errorf("%d spans from %d to %d: %d, not %d", len(x.l), x.from, x.to, got, x.want)
		}
	}
}

func TestAreaIsTheSumOverTimes(t *testing.T) {
	r := rand.New(rand.NewSource(5))
	for range 300 {
		l := mixed(r)
		for from := int64(0); from <= 14; from++ {
			want := int64(0)
			for to := from; to <= 14; to++ {
				if got := span.Area(from, to, l...); got != want {
					t.Fatalf("%v from %d to %d: %d, not %d", l, from, to, got, want)
				}
				want += int64(used(to, l))
			}
		}
	}
}

// Sums of great parts, against numbers without a limit.
func TestAreaOfGreatSpans(t *testing.T) {
	r := rand.New(rand.NewSource(6))
	for range 300 {
		var l []api.Span
		want := new(big.Int)
		for range 1 + r.Intn(5) {
			from, to := r.Int63n(forever>>r.Intn(9)), r.Int63n(forever>>r.Intn(9)+1)
			width := 1 + r.Intn(64)
			l = append(l, api.Span{From: from, To: to, Width: width})
			if from < to {
				want.Add(want, new(big.Int).Mul(big.NewInt(to-from), big.NewInt(int64(width))))
			}
		}
		if want.Cmp(big.NewInt(forever)) > 0 {
			want.SetInt64(forever)
		}
		if got := span.Area(0, forever, l...); got != want.Int64() {
			t.Errorf("%v: %d, not %d", l, got, want)
		}
	}
}

// Promise 4.3.

func TestSteps(t *testing.T) {
	meet := []api.Span{{From: 5, To: 9, Width: 2}, {From: 0, To: 5, Width: 2}}
	for _, x := range []struct {
		all  int
		from int64
		l    []api.Span
		want []api.Step
	}{
		{6, 0, example(), []api.Step{{At: 0, Free: 4}, {At: 5, Free: 1}, {At: 8, Free: 4}, {At: 10, Free: 6}}},
		{6, 6, example(), []api.Step{{At: 6, Free: 1}, {At: 8, Free: 4}, {At: 10, Free: 6}}},
		{6, 5, example(), []api.Step{{At: 5, Free: 1}, {At: 8, Free: 4}, {At: 10, Free: 6}}},
		{6, 7, example(), []api.Step{{At: 7, Free: 1}, {At: 8, Free: 4}, {At: 10, Free: 6}}},
		{6, 8, example(), []api.Step{{At: 8, Free: 4}, {At: 10, Free: 6}}},
		{6, 10, example(), []api.Step{{At: 10, Free: 6}}},
		{6, 99, example(), []api.Step{{At: 99, Free: 6}}},
		{6, -3, example(), []api.Step{{At: -3, Free: 6}, {At: 0, Free: 4}, {At: 5, Free: 1}, {At: 8, Free: 4}, {At: 10, Free: 6}}},
		{6, least, example()[1:], []api.Step{{At: least, Free: 6}, {At: 5, Free: 3}, {At: 8, Free: 6}}},
		{6, most, example(), []api.Step{{At: most, Free: 6}}},
		{6, 3, nil, []api.Step{{At: 3, Free: 6}}},
		{6, 3, wrong(), []api.Step{{At: 3, Free: 6}}},
		{0, 0, example(), []api.Step{{At: 0, Free: -2}, {At: 5, Free: -5}, {At: 8, Free: -2}, {At: 10, Free: 0}}},
		{-1 << 20, 9, example(), []api.Step{{At: 9, Free: -1<<20 - 2}, {At: 10, Free: -1 << 20}}},
		{1 << 20, 9, example(), []api.Step{{At: 9, Free: 1<<20 - 2}, {At: 10, Free: 1 << 20}}},
		// As many nodes end to be used at 5 as begin to be.
		{4, 0, meet, []api.Step{{At: 0, Free: 2}, {At: 9, Free: 4}}},
		{4, 5, meet, []api.Step{{At: 5, Free: 2}, {At: 9, Free: 4}}},
		{4, 2, []api.Span{{From: 0, To: forever, Width: 3}}, []api.Step{{At: 2, Free: 1}, {At: forever, Free: 4}}},
		{4, forever, []api.Span{{From: 0, To: forever, Width: 3}}, []api.Step{{At: forever, Free: 4}}},
	} {
		if got := span.Steps(x.all, x.from, x.l...); !slices.Equal(got, x.want) {
			t.Errorf("of %d from %d, %v: %v, not %v", x.all, x.from, x.l, got, x.want)
		}
	}
}

func TestStepsAreWhereTheNumberChanges(t *testing.T) {
	r := rand.New(rand.NewSource(7))
	for range 300 {
		l := mixed(r)
		for from := int64(-2); from <= 14; from++ {
			want := []api.Step{{At: from, Free: 9 - used(from, l)}}
			for at := from + 1; at <= 20; at++ {
				if used(at, l) != used(at-1, l) {
					want = append(want, api.Step{At: at, Free: 9 - used(at, l)})
				}
			}
			if got := span.Steps(9, from, l...); !slices.Equal(got, want) {
				t.Fatalf("%v from %d: %v, not %v", l, from, got, want)
			}
		}
	}
}

func TestCut(t *testing.T) {
	l := []api.Span{
		{From: 5, To: 8, Width: 3},
		{From: 0, To: 10, Width: 2},
		{From: 4, To: 4, Width: 9},
		{From: 7, To: forever, Width: 64},
		{From: 5, To: 8, Width: 3},
	}
	for _, x := range []struct {
		from int64
		want []api.Span
	}{
		{least, []api.Span{l[0], l[1], l[3], l[4]}},
		{-1, []api.Span{l[0], l[1], l[3], l[4]}},
		{0, []api.Span{l[0], l[1], l[3], l[4]}},
		{5, []api.Span{l[0], {From: 5, To: 10, Width: 2}, l[3], l[4]}},
		{7, []api.Span{{From: 7, To: 8, Width: 3}, {From: 7, To: 10, Width: 2}, l[3], {From: 7, To: 8, Width: 3}}},
		{8, []api.Span{{From: 8, To: 10, Width: 2}, {From: 8, To: forever, Width: 64}}},
		{9, []api.Span{{From: 9, To: 10, Width: 2}, {From: 9, To: forever, Width: 64}}},
		{10, []api.Span{{From: 10, To: forever, Width: 64}}},
		{forever - 1, []api.Span{{From: forever - 1, To: forever, Width: 64}}},
		{forever, nil},
		{most, nil},
	} {
		if got := span.Cut(x.from, l...); !slices.Equal(got, x.want) {
			t.Errorf("from %d: %v, not %v", x.from, got, x.want)
		}
	}
	if got := span.Cut(0); len(got) != 0 {
		t.Errorf("of none: %v", got)
	}
	for _, from := range edges() {
		if got := span.Cut(from, wrong()...); len(got) != 0 {
			t.Errorf("of spans that are not valid, from %d: %v", from, got)
		}
	}
}

// What is cut off is before the time, and nothing else.
func TestCutKeepsWhatLiesAhead(t *testing.T) {
	r := rand.New(rand.NewSource(8))
	for range 300 {
		l := mixed(r)
		for from := int64(-2); from <= 14; from++ {
			rest := span.Cut(from, l...)
			for at := int64(-2); at <= 14; at++ {
				want := 0
				if at >= from {
					want = used(at, l)
				}
				if got := used(at, rest); got != want {
					t.Fatalf("%v from %d: %v", l, from, rest)
				}
			}
		}
	}
}

// All promises.

// Spans that are not valid change nothing, wherever they stand among the others.
func TestWrongSpansAreIgnored(t *testing.T) {
	for _, s := range wrong() {
		for i := range 3 {
			l := example()
			m := slices.Insert(example(), i, s)
			for _, a := range edges() {
				if span.At(a, m...) != span.At(a, l...) || !slices.Equal(span.Cut(a, m...), span.Cut(a, l...)) || !slices.Equal(span.Steps(6, a, m...), span.Steps(6, a, l...)) {
					t.Errorf("%v from %d", m, a)
				}
				for _, b := range edges() {
					if span.Peak(a, b, m...) != span.Peak(a, b, l...) || span.Area(a, b, m...) != span.Area(a, b, l...) {
						t.Errorf("%v from %d to %d", m, a, b)
					}
				}
			}
			if !slices.Equal(span.Times(m...), span.Times(l...)) || span.Last(m...) != span.Last(l...) {
				t.Errorf("%v", m)
			}
		}
	}
}

// For numbers beyond those that the document names, a call ends.
func TestEachCallEnds(t *testing.T) {
	l := append(wrong(), api.Span{From: 0, To: forever, Width: 64}, api.Span{From: 1, To: forever, Width: 64})
	for _, a := range edges() {
		for _, b := range edges() {
			span.Area(a, b, l...)
			span.Steps(int(a), b, l...)
		}
	}
}

func TestListsAreNeitherChangedNorKept(t *testing.T) {
	give := func() []api.Span {
		return []api.Span{{From: 5, To: 8, Width: 3}, {From: 9, To: 2, Width: 1}, {From: 0, To: 10, Width: 2}}
	}
	l := give()
	times, steps, rest := span.Times(l...), span.Steps(6, 6, l...), span.Cut(6, l...)
	span.At(6, l...)
	span.Peak(6, 9, l...)
	span.Area(6, 9, l...)
	span.Last(l...)
	if !slices.Equal(l, give()) {
		t.Errorf("changed: %v", l)
	}
	clear(l)
	if !slices.Equal(times, span.Times(give()...)) || !slices.Equal(steps, span.Steps(6, 6, give()...)) || !slices.Equal(rest, span.Cut(6, give()...)) {
		t.Errorf("kept: %d, %v, %v", times, steps, rest)
	}
	clear(times)
	clear(steps)
	clear(rest)
	l = give()
	if got := span.Cut(0, l...); len(got) != 2 || got[0] != l[0] || got[1] != l[2] {
		t.Errorf("not new: %v", got)
	}
}

// Many spans, each of which overlaps with its neighbours, not in the order of their times.
func TestManySpans(t *testing.T) {
	const n = 1 << 17
	l := make([]api.Span, n)
	for i := range int64(n) {
		k := i * 7 % n // 7 and n have no factor in common
		l[i] = api.Span{From: 10 * k, To: 10*k + 15, Width: 2}
	}
	times, steps := span.Times(l...), span.Steps(64, 0, l...)
	if len(times) != 2*n || !slices.IsSorted(times) || len(steps) != 2*n {
		t.Fatalf("%d times, %d steps", len(times), len(steps))
	}
	for i, s := range steps[1 : 2*n-1] {
		if want := []int{60, 62}[i%2]; s.At != times[i+1] || s.Free != want {
			t.Fatalf("step %d: %v, not %d", i+1, s, want)
		}
	}
	if last := steps[2*n-1]; last != (api.Step{At: 10*n + 5, Free: 64}) || last.At != span.Last(l...) {
		t.Errorf("last: %v", last)
	}
	if got := span.Peak(0, forever, l...); got != 4 {
		t.Errorf("peak: %d", got)
	}
	if got := span.Area(0, forever, l...); got != 30*n {
		t.Errorf("area: %d", got)
	}
}
