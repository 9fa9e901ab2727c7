package prof_test

import (
	"math"
	"math/rand"
	"slices"
	"testing"

	"berthage/api"
	"berthage/prof"
)

const (
	least   = math.MinInt64
	most    = math.MaxInt64
	latest  = 1 << 40
	forever = 1 << 60
)

// free returns a profile of so many free nodes.
func free(t *testing.T, n int) *prof.Profile {
	t.Helper()
	p, e := prof.New(n)
	if e != api.OK || p == nil {
		t.Fatalf("of %d: %v", n, e)
	}
	return p
}

// example returns the profile of the document's example.
func example(t *testing.T) *prof.Profile {
	t.Helper()
	p := free(t, 4)
	if e := p.Reserve(api.Span{From: 5, To: 10, Width: 3}); e != api.OK {
		t.Fatal(e)
	}
	return p
}

// is fails unless a profile has these steps and this version.
func is(t *testing.T, p *prof.Profile, version int, want ...api.Step) {
	t.Helper()
	if got := p.Steps(); !slices.Equal(got, want) || p.Version() != version || p.Now() != want[0].At {
		t.Errorf("%v, version %d, now %d, not %v, version %d", got, p.Version(), p.Now(), want, version)
	}
}

// part is by how many nodes more are free from a time up to another one.
type part struct {
	from, to int64
	n        int
}

// model is a profile as the document's words define it, of which nothing is prepared.
type model struct {
	now     int64
	version int
	all     int
	parts   []part
}

func (m *model) free(t int64) int {
	n := m.all
	for _, x := range m.parts {
		if t = max(t, m.now); x.from <= t && (t < x.to || x.to == forever) {
			n += x.n
		}
	}
	return n
}

// times returns the times from now on at which the number may change, ascending.
func (m *model) times() []int64 {
	l := []int64{m.now}
	for _, x := range m.parts {
		for _, t := range []int64{x.from, x.to} {
			if t > m.now && t < forever {
				l = append(l, t)
			}
		}
	}
	slices.Sort(l)
	return slices.Compact(l)
}

func (m *model) steps() []api.Step {
	var l []api.Step
	for _, t := range m.times() {
		if n := m.free(t); len(l) == 0 || l[len(l)-1].Free != n {
			l = append(l, api.Step{At: t, Free: n})
		}
	}
	return l
}

func (m *model) least(from, to int64) int {
	if from = max(from, m.now); from >= to {
		return 64
	}
	n := m.free(from)
	for _, t := range m.times() {
		if from <= t && t < to {
			n = min(n, m.free(t))
		}
	}
	return n
}

func (m *model) earliest(from, long int64, width int) (int64, api.Errno) {
	if long < 1 || long > 1<<20 || width < 1 || width > 64 {
		return 0, api.ErrArg
	}
	from = max(from, m.now)
	// There is enough space from a time on, but not from the one before it, only where something changes.
	for _, t := range append([]int64{from}, m.times()...) {
		if t >= from && t <= latest && m.least(t, t+long) >= width {
			return t, api.OK
		}
	}
	return 0, api.ErrNever
}

func (m *model) add(from, to int64, n int) api.Errno {
	if from >= to || to > forever || n < -64 || n > 64 {
		return api.ErrArg
	}
	if from = max(from, m.now); from >= to || n == 0 {
		return api.OK
	}
	for _, t := range append(m.times(), from) {
		if k := m.free(t) + n; from <= t && t < to && (k < 0 || k > 64) {
			return api.ErrRange
		}
	}
	m.parts = append(m.parts, part{from, to, n})
	m.version++
	return api.OK
}

func (m *model) advance(t int64) api.Errno {
	if t < m.now || t > latest {
		return api.ErrRange
	}
	if t != m.now {
		m.now = t
		m.version++
	}
	return api.OK
}

// twin fails unless a profile is as its model.
func (m *model) twin(t *testing.T, p *prof.Profile) {
	t.Helper()
	is(t, p, m.version, m.steps()...)
	if t.Failed() {
		t.Fatalf("%+v", m)
	}
}

// edges returns times of both signs, and those at the limits.
func edges() []int64 {
	l := []int64{least, least + 1, -latest, latest - 1, latest, latest + 1, 1 << 41, forever - 1, forever, forever + 1, most - 1, most}
	for v := int64(-3); v <= 14; v++ {
		l = append(l, v)
	}
	return l
}

// Promise 5.1.

func TestNew(t *testing.T) {
	for _, n := range []int{math.MinInt, -65, -64, -1, 65, 66, 128, 1 << 32, 1<<32 + 4, math.MaxInt} {
		if p, e := prof.New(n); p != nil || e != api.ErrArg {
			t.Errorf("of %d: %v, %v", n, p, e)
		}
	}
	for n := range 65 {
		p := free(t, n)
		is(t, p, 0, api.Step{At: 0, Free: n})
		for _, at := range edges() {
			if got := p.Free(at); got != n {
				t.Errorf("of %d, at %d: %d", n, at, got)
			}
		}
	}
}

func TestFree(t *testing.T) {
	p := example(t)
	is(t, p, 1, api.Step{At: 0, Free: 4}, api.Step{At: 5, Free: 1}, api.Step{At: 10, Free: 4})
	for at, want := range map[int64]int{least: 4, -1: 4, 0: 4, 4: 4, 5: 1, 9: 1, 10: 4, latest: 4, forever: 4, most: 4} {
		if got := p.Free(at); got != want {
			t.Errorf("at %d: %d, not %d", at, got, want)
		}
	}
	p.Advance(7)
	for at, want := range map[int64]int{least: 1, -1: 1, 0: 1, 4: 1, 6: 1, 7: 1, 9: 1, 10: 4, most: 4} {
		if got := p.Free(at); got != want {
			t.Errorf("from 7 on, at %d: %d, not %d", at, got, want)
		}
	}
}

func TestLeast(t *testing.T) {
	p := example(t)
	for _, x := range []struct {
		from, to int64
		want     int
	}{
		{0, 6, 1},
		{0, 5, 4},
		{5, 6, 1},
		{6, 7, 1}, // no step begins in between
		{9, 10, 1},
		{9, 20, 1},
		{10, 11, 4},
		{10, most, 4},
		{-5, 0, 64},
		{-5, 1, 4},
		{-5, 6, 1},
		{3, 3, 64},
		{5, 3, 64},
		{least, most, 1},
		{most, least, 64},
		{least, least, 64},
		{most, most, 64},
		{most - 1, most, 4},
		{forever, most, 4},
	} {
		if got := p.Least(x.from, x.to); got != x.want {
			t.Errorf("from %d to %d: %d, not %d", x.from, x.to, got, x.want)
		}
	}
	p.Advance(11)
	for _, x := range [][3]int64{{0, 11, 64}, {0, 12, 4}, {5, 7, 64}, {5, most, 4}, {11, 11, 64}} {
		if got := p.Least(x[0], x[1]); got != int(x[2]) {
			t.Errorf("from 11 on, from %d to %d: %d, not %d", x[0], x[1], got, x[2])
		}
	}
}

func TestCopyIsIndependent(t *testing.T) {
	p := example(t)
	p.Advance(3)
	want := []api.Step{{At: 3, Free: 4}, {At: 5, Free: 1}, {At: 10, Free: 4}}
	c, d := p.Copy(), p.Copy()
	is(t, c, 2, want...)

	c.Add(5, 10, 1)
	c.Add(4, 7, 2)
	c.Advance(6)
	is(t, c, 5, api.Step{At: 6, Free: 4}, api.Step{At: 7, Free: 2}, api.Step{At: 10, Free: 4})
	is(t, p, 2, want...)

	p.Add(3, forever, 60)
	p.Advance(9)
	is(t, p, 4, api.Step{At: 9, Free: 61}, api.Step{At: 10, Free: 64})
	is(t, d, 2, want...)
	is(t, d.Copy().Copy(), 2, want...)
}

func TestStepsAreNew(t *testing.T) {
	p := example(t)
	l := p.Steps()
	for i := range l {
		l[i] = api.Step{At: 77, Free: 77}
	}
	_ = append(l[:1], api.Step{At: 78, Free: 78})
	is(t, p, 1, api.Step{At: 0, Free: 4}, api.Step{At: 5, Free: 1}, api.Step{At: 10, Free: 4})
	l = p.Steps()
	p.Add(0, forever, -1)
	p.Advance(6)
	if !slices.Equal(l, []api.Step{{At: 0, Free: 4}, {At: 5, Free: 1}, {At: 10, Free: 4}}) {
		t.Errorf("changed later: %v", l)
	}
}

// Promise 5.2.

func TestAdd(t *testing.T) {
	a, b, c := api.Step{At: 0, Free: 4}, api.Step{At: 5, Free: 1}, api.Step{At: 10, Free: 4}
	for _, x := range []struct {
		from, to int64
		n        int
		want     []api.Step
	}{
		{20, 30, -4, []api.Step{a, b, c, {At: 20, Free: 0}, {At: 30, Free: 4}}},
		{20, 30, 60, []api.Step{a, b, c, {At: 20, Free: 64}, {At: 30, Free: 4}}},
		{7, 9, -1, []api.Step{a, b, {At: 7, Free: 0}, {At: 9, Free: 1}, c}},
		{7, 8, 1, []api.Step{a, b, {At: 7, Free: 2}, {At: 8, Free: 1}, c}},
		// Where a step begins already, none is added; where nothing changes any more, none remains.
		{5, 10, 3, []api.Step{a}},
		{5, 10, 2, []api.Step{a, {At: 5, Free: 3}, c}},
		{5, 7, 3, []api.Step{a, {At: 7, Free: 1}, c}},
		{7, 10, 3, []api.Step{a, b, {At: 7, Free: 4}}},
		{7, 10, 4, []api.Step{a, b, {At: 7, Free: 5}, c}},
		{3, 5, -3, []api.Step{a, {At: 3, Free: 1}, c}},
		{10, 12, -3, []api.Step{a, b, {At: 12, Free: 4}}},
		{0, 5, -3, []api.Step{{At: 0, Free: 1}, c}},
		{0, 7, -1, []api.Step{{At: 0, Free: 3}, {At: 5, Free: 0}, {At: 7, Free: 1}, c}},
		{3, 12, -1, []api.Step{a, {At: 3, Free: 3}, {At: 5, Free: 0}, {At: 10, Free: 3}, {At: 12, Free: 4}}},
		// What lies before now counts as now.
		{-5, 2, -4, []api.Step{{At: 0, Free: 0}, {At: 2, Free: 4}, b, c}},
		{least, 1, 60, []api.Step{{At: 0, Free: 64}, {At: 1, Free: 4}, b, c}},
		// Up to Forever means forever, but not up to the time before it.
		{10, forever, -3, []api.Step{a, b}},
		{5, forever, 3, []api.Step{a, {At: 10, Free: 7}}},
		{12, forever, -4, []api.Step{a, b, c, {At: 12, Free: 0}}},
		{0, forever, -1, []api.Step{{At: 0, Free: 3}, {At: 5, Free: 0}, {At: 10, Free: 3}}},
		{least, forever, 60, []api.Step{{At: 0, Free: 64}, {At: 5, Free: 61}, {At: 10, Free: 64}}},
		{12, forever - 1, -4, []api.Step{a, b, c, {At: 12, Free: 0}, {At: forever - 1, Free: 4}}},
		{forever - 1, forever, 1, []api.Step{a, b, c, {At: forever - 1, Free: 5}}},
		{latest, latest + 1, 1, []api.Step{a, b, c, {At: latest, Free: 5}, {At: latest + 1, Free: 4}}},
	} {
		p := example(t)
		if e := p.Add(x.from, x.to, x.n); e != api.OK {
			t.Errorf("from %d to %d, %d: %v", x.from, x.to, x.n, e)
		}
		is(t, p, 2, x.want...)
	}
}

func TestAddForever(t *testing.T) {
	p := free(t, 4)
	p.Add(8, forever, -1)
	for at, want := range map[int64]int{7: 4, 8: 3, 100: 3, latest: 3, forever - 1: 3, forever: 3, forever + 1: 3, most: 3} {
		if got := p.Free(at); got != want {
			t.Errorf("at %d: %d, not %d", at, got, want)
		}
	}
	if p.Least(forever, most) != 3 || p.Least(most-1, most) != 3 {
		t.Error("from Forever on")
	}
	p.Add(9, forever-1, -1)
	for at, want := range map[int64]int{8: 3, 9: 2, forever - 2: 2, forever - 1: 3, forever: 3, most: 3} {
		if got := p.Free(at); got != want {
			t.Errorf("then, at %d: %d, not %d", at, got, want)
		}
	}
}

// From now on, even if what is added began earlier.
func TestAddFromNow(t *testing.T) {
	p := example(t)
	p.Advance(7)
	is(t, p, 2, api.Step{At: 7, Free: 1}, api.Step{At: 10, Free: 4})
	if e := p.Add(0, 8, 63); e != api.OK {
		t.Error(e)
	}
	is(t, p, 3, api.Step{At: 7, Free: 64}, api.Step{At: 8, Free: 1}, api.Step{At: 10, Free: 4})
	// Up to now, or up to a time before it, there is no time left.
	for _, x := range [][2]int64{{0, 7}, {0, 6}, {6, 7}, {least, 7}, {-9, -3}} {
		for _, n := range []int{-64, 1, 64} {
			if e := p.Add(x[0], x[1], n); e != api.OK {
				t.Errorf("from %d to %d: %v", x[0], x[1], e)
			}
		}
	}
	is(t, p, 3, api.Step{At: 7, Free: 64}, api.Step{At: 8, Free: 1}, api.Step{At: 10, Free: 4})
}

func TestAddOfNone(t *testing.T) {
	p := example(t)
	for _, x := range [][2]int64{{0, 1}, {0, forever}, {7, 9}, {5, 10}, {least, forever}, {-2, -1}} {
		if e := p.Add(x[0], x[1], 0); e != api.OK {
			t.Errorf("from %d to %d: %v", x[0], x[1], e)
		}
	}
	is(t, p, 1, example(t).Steps()...)
}

func TestAddOfWrongArguments(t *testing.T) {
	p := example(t)
	p.Advance(2)
	for _, x := range []part{
		{3, 3, 1}, {3, 2, 1}, {0, 0, 1}, {2, 2, 0}, {1, 1, 1}, {1, 0, 1}, {-1, -1, 1}, {-1, -2, 0},
		{forever, forever, 1}, {most, least, 1}, {most, most, 0}, {least, least, 0},
		{0, forever + 1, 1}, {0, most, 1}, {0, most, 0}, {forever, forever + 1, 1}, {forever + 1, most, -1},
		{0, 9, 65}, {0, 9, -65}, {0, 9, math.MaxInt}, {0, 9, math.MinInt}, {0, 9, 1 << 32}, {0, forever, 1<<32 - 1},
		// Also where there is no time left, or too few nodes are free.
		{0, 1, 65}, {0, 1, -65}, {-9, -3, 65}, {5, 10, -65}, {5, forever + 1, -2}, {5, forever + 1, 64},
	} {
		if e := p.Add(x.from, x.to, x.n); e != api.ErrArg {
			t.Errorf("from %d to %d, %d: %v", x.from, x.to, x.n, e)
		}
	}
	is(t, p, 2, api.Step{At: 2, Free: 4}, api.Step{At: 5, Free: 1}, api.Step{At: 10, Free: 4})
}

func TestAddBeyondTheRange(t *testing.T) {
	p := example(t)
	p.Add(20, 21, 60)
	for _, x := range []part{
		{7, 9, -2}, {5, 6, -2}, {9, 10, -2}, {4, 6, -2}, {9, 11, -2}, {0, forever, -2}, {least, forever, -64}, {9, 10, 64},
		{0, 1, -5}, {3, 4, -64}, {11, 12, 61}, {11, 12, 64}, {30, forever, -5}, {forever - 1, forever, -5},
		{20, 21, 1}, {15, 21, 1}, {20, 30, 1}, {0, forever, 1}, {latest, latest + 1, 61},
	} {
		if e := p.Add(x.from, x.to, x.n); e != api.ErrRange {
			t.Errorf("from %d to %d, %d: %v", x.from, x.to, x.n, e)
		}
	}
	is(t, p, 2, append(example(t).Steps(), api.Step{At: 20, Free: 64}, api.Step{At: 21, Free: 4})...)
	// Next to the times at which it would not be possible, it is.
	for i, x := range []part{{0, 5, -2}, {10, 20, -2}, {21, forever, 1}} {
		if e := p.Add(x.from, x.to, x.n); e != api.OK || p.Version() != 3+i {
			t.Errorf("from %d to %d, %d: %v, version %d", x.from, x.to, x.n, e, p.Version())
		}
	}
}

func TestReserveAndRelease(t *testing.T) {
	p := free(t, 10)
	for i, x := range []struct {
		release bool
		s       api.Span
		e       api.Errno
		version int
	}{
		{false, api.Span{From: 5, To: 10, Width: 10}, api.OK, 1},
		{false, api.Span{From: 9, To: 10, Width: 1}, api.ErrRange, 1},
		{false, api.Span{From: 10, To: forever, Width: 4}, api.OK, 2},
		{true, api.Span{From: 5, To: 10, Width: 64}, api.OK, 3},
		{true, api.Span{From: 9, To: 10, Width: 1}, api.ErrRange, 3},
		{false, api.Span{From: 5, To: 10, Width: 64}, api.OK, 4},
		{true, api.Span{From: -4, To: 1, Width: 3}, api.OK, 5},
		{false, api.Span{From: -4, To: 0, Width: 64}, api.OK, 5},
		{true, api.Span{From: -4, To: 0, Width: 64}, api.OK, 5},
		{false, api.Span{From: 5, To: 10, Width: 0}, api.OK, 5},
		{true, api.Span{From: 5, To: 10, Width: 0}, api.OK, 5},
		{false, api.Span{From: 5, To: 5, Width: 1}, api.ErrArg, 5},
		{true, api.Span{From: 5, To: 5, Width: 0}, api.ErrArg, 5},
		{false, api.Span{From: 5, To: forever + 1, Width: 1}, api.ErrArg, 5},
		{true, api.Span{From: 5, To: forever + 1, Width: 1}, api.ErrArg, 5},
		{false, api.Span{From: 1, To: 2, Width: 65}, api.ErrArg, 5},
		{true, api.Span{From: 1, To: 2, Width: 65}, api.ErrArg, 5},
		{false, api.Span{From: 1, To: 2, Width: -1}, api.ErrArg, 5},
		{true, api.Span{From: 1, To: 2, Width: -1}, api.ErrArg, 5},
		{false, api.Span{From: 1, To: 2, Width: -64}, api.ErrArg, 5},
		{true, api.Span{From: 1, To: 2, Width: math.MinInt}, api.ErrArg, 5},
		{false, api.Span{From: 1, To: 2, Width: math.MinInt}, api.ErrArg, 5},
		{false, api.Span{From: 1, To: 2, Width: math.MaxInt}, api.ErrArg, 5},
		{false, api.Span{}, api.ErrArg, 5},
	} {
		do := p.Reserve
		if x.release {
			do = p.Release
		}
		if e := do(x.s); e != x.e || p.Version() != x.version {
			t.Errorf("%d, %v: %v, version %d", i, x, e, p.Version())
		}
	}
	is(t, p, 5, api.Step{At: 0, Free: 13}, api.Step{At: 1, Free: 10}, api.Step{At: 5, Free: 0}, api.Step{At: 10, Free: 6})
}

// Promise 5.3.

func TestEarliest(t *testing.T) {
	p := example(t)
	for _, x := range []struct {
		from, long int64
		width      int
		want       int64
	}{
		{0, 6, 2, 10},
		{0, 5, 4, 0},
		{0, 5, 2, 0}, // it ends where too few nodes begin to be free
		{0, 6, 1, 0},
		{1, 5, 2, 10},
		{1, 4, 2, 1},
		{4, 1, 2, 4},
		{4, 2, 2, 10},
		{5, 1, 1, 5},
		{5, 1, 2, 10},
		{9, 1, 2, 10},
		{10, 1, 4, 10},
		{11, 1, 4, 11},
		{-7, 5, 4, 0},
		{least, 5, 4, 0},
		{least, 6, 4, 10},
		{0, 1 << 20, 4, 10},
		{0, 1 << 20, 1, 0},
		{latest, 1 << 20, 4, latest},
		{latest - 1, 1, 4, latest - 1},
	} {
		if got, e := p.Earliest(x.from, x.long, x.width); got != x.want || e != api.OK {
			t.Errorf("%d of %d from %d: %d, %v, not %d", x.long, x.width, x.from, got, e, x.want)
		}
	}
	for _, x := range []part{{0, 5, 5}, {0, 1, 64}, {10, 1 << 20, 5}, {latest + 1, 1, 1}, {forever, 1, 4}, {most, 1 << 20, 1}, {most - 1<<20, 1 << 20, 1}} {
		if got, e := p.Earliest(x.from, x.to, x.n); got != 0 || e != api.ErrNever {
			t.Errorf("%d of %d from %d: %d, %v", x.to, x.n, x.from, got, e)
		}
	}
	is(t, p, 1, example(t).Steps()...)
}

func TestEarliestIsNotBeforeNow(t *testing.T) {
	p := example(t)
	p.Advance(3)
	for _, x := range [][3]int64{{0, 2, 3}, {3, 2, 3}, {0, 3, 10}, {4, 1, 4}, {4, 2, 10}, {least, 1, 3}} {
		if got, e := p.Earliest(x[0], x[1], 2); got != x[2] || e != api.OK {
			t.Errorf("%d from %d: %d, %v, not %d", x[1], x[0], got, e, x[2])
		}
	}
}

func TestEarliestOfWrongArguments(t *testing.T) {
	p := example(t)
	for _, from := range []int64{least, -1, 0, 7, latest, latest + 1, most} {
		for _, long := range []int64{least, -1 << 20, -1, 0, 1<<20 + 1, 1 << 32, 1<<32 + 1, latest, forever, most} {
			if got, e := p.Earliest(from, long, 1); got != 0 || e != api.ErrArg {
				t.Errorf("%d from %d: %d, %v", long, from, got, e)
			}
		}
		for _, width := range []int{math.MinInt, -64, -1, 0, 65, 1 << 32, 1<<32 + 1, math.MaxInt} {
			if got, e := p.Earliest(from, 1, width); got != 0 || e != api.ErrArg {
				t.Errorf("of %d from %d: %d, %v", width, from, got, e)
			}
		}
	}
}

// The last time that is found is MaxTime.
func TestEarliestUpToMaxTime(t *testing.T) {
	for _, x := range []struct {
		to, want int64
		e        api.Errno
	}{
		{latest - 1, latest - 1, api.OK},
		{latest, latest, api.OK},
		{latest + 1, 0, api.ErrNever},
		{latest + 1<<20, 0, api.ErrNever},
		{forever - 1, 0, api.ErrNever},
		{forever, 0, api.ErrNever},
	} {
		p := free(t, 4)
		p.Add(0, x.to, -3)
		for _, long := range []int64{1, 2, 1 << 20} {
			if got, e := p.Earliest(0, long, 2); got != x.want || e != x.e {
				t.Errorf("%d, taken up to %d: %d, %v", long, x.to, got, e)
			}
		}
	}
	// What is free up to a time beyond MaxTime is enough only if it is free for long enough.
	p := free(t, 4)
	p.Add(latest+5, forever, -3)
	for _, x := range []struct {
		from, long, want int64
		e                api.Errno
	}{
		{latest, 5, latest, api.OK},
		{latest, 6, 0, api.ErrNever},
		{latest - 1, 6, latest - 1, api.OK},
		{latest - 1, 7, 0, api.ErrNever},
		{latest + 1, 4, 0, api.ErrNever},
	} {
		if got, e := p.Earliest(x.from, x.long, 2); got != x.want || e != x.e {
			t.Errorf("%d from %d: %d, %v", x.long, x.from, got, e)
		}
	}
}

func TestAdvance(t *testing.T) {
	p := example(t)
	b, c := api.Step{At: 5, Free: 1}, api.Step{At: 10, Free: 4}
	for _, x := range []struct {
		t       int64
		e       api.Errno
		version int
		want    []api.Step
	}{
		{-1, api.ErrRange, 1, []api.Step{{At: 0, Free: 4}, b, c}},
		{least, api.ErrRange, 1, []api.Step{{At: 0, Free: 4}, b, c}},
		{latest + 1, api.ErrRange, 1, []api.Step{{At: 0, Free: 4}, b, c}},
		{forever, api.ErrRange, 1, []api.Step{{At: 0, Free: 4}, b, c}},
		{most, api.ErrRange, 1, []api.Step{{At: 0, Free: 4}, b, c}},
		{0, api.OK, 1, []api.Step{{At: 0, Free: 4}, b, c}},
		{4, api.OK, 2, []api.Step{{At: 4, Free: 4}, b, c}},
		{4, api.OK, 2, []api.Step{{At: 4, Free: 4}, b, c}},
		{3, api.ErrRange, 2, []api.Step{{At: 4, Free: 4}, b, c}},
		{5, api.OK, 3, []api.Step{b, c}},
		{7, api.OK, 4, []api.Step{{At: 7, Free: 1}, c}},
		{6, api.ErrRange, 4, []api.Step{{At: 7, Free: 1}, c}},
		{12, api.OK, 5, []api.Step{{At: 12, Free: 4}}},
		{latest, api.OK, 6, []api.Step{{At: latest, Free: 4}}},
		{latest, api.OK, 6, []api.Step{{At: latest, Free: 4}}},
		{latest + 1, api.ErrRange, 6, []api.Step{{At: latest, Free: 4}}},
		{latest - 1, api.ErrRange, 6, []api.Step{{At: latest, Free: 4}}},
	} {
		if e := p.Advance(x.t); e != x.e {
			t.Errorf("to %d: %v", x.t, e)
		}
		is(t, p, x.version, x.want...)
	}
	// At the last time, what is free later can still change.
	if e := p.Add(latest+1, forever, -4); e != api.OK {
		t.Error(e)
	}
	is(t, p, 7, api.Step{At: latest, Free: 4}, api.Step{At: latest + 1, Free: 0})
	if got, e := p.Earliest(0, 1, 4); got != latest || e != api.OK {
		t.Errorf("%d, %v", got, e)
	}
	if got, e := p.Earliest(0, 2, 4); got != 0 || e != api.ErrNever {
		t.Errorf("%d, %v", got, e)
	}
}

// Over several steps at once, and beyond the last one.
func TestAdvanceOverSteps(t *testing.T) {
	for to, want := range map[int64][]api.Step{
		10: {{At: 10, Free: 4}},
		11: {{At: 11, Free: 4}},
		9:  {{At: 9, Free: 1}, {At: 10, Free: 4}},
	} {
		p := example(t)
		if e := p.Advance(to); e != api.OK {
			t.Error(e)
		}
		is(t, p, 2, want...)
	}
}

// Promise 5.4.

func TestNone(t *testing.T) {
	for _, p := range []*prof.Profile{nil, {}, new(prof.Profile)} {
		// Wrong arguments too: this error comes before all others.
		for _, a := range edges() {
			for _, b := range []int64{least, -1, 0, 5, forever, forever + 1, most} {
				for _, n := range []int{math.MinInt, -1, 0, 1, 64, 65} {
					s := api.Span{From: a, To: b, Width: n}
					at, e := p.Earliest(a, b, n)
					if at != 0 || e != api.ErrState || p.Add(a, b, n) != api.ErrState || p.Reserve(s) != api.ErrState || p.Release(s) != api.ErrState {
						t.Fatalf("%v: %d, %v", s, at, e)
					}
				}
				if got := p.Least(a, b); got != 0 {
					t.Fatalf("from %d to %d: %d", a, b, got)
				}
			}
			if p.Free(a) != 0 || p.Advance(a) != api.ErrState {
				t.Fatalf("at %d", a)
			}
		}
		if p.Now() != 0 || p.Version() != 0 || len(p.Steps()) != 0 || p.Copy() != nil {
			t.Errorf("%v", p)
		}
	}
}

// A copy is no less than what New returned; nor is what has no free node.
func TestCopyIsNotNone(t *testing.T) {
	p := free(t, 0).Copy()
	if e := p.Add(0, 1, 1); e != api.OK {
		t.Error(e)
	}
	is(t, p, 1, api.Step{At: 0, Free: 1}, api.Step{At: 1, Free: 0})
}

// Promise 5.5.

func TestReservedThenReleased(t *testing.T) {
	r := rand.New(rand.NewSource(5))
	for range 3000 {
		p, _ := mixed(t, r, edges())
		before, version := p.Steps(), p.Version()
		s := api.Span{From: r.Int63n(30) - 3, To: r.Int63n(30), Width: r.Intn(5)}
		if r.Intn(4) == 0 {
			s.To = forever
		}
		if p.Reserve(s) != api.OK {
			is(t, p, version, before...)
			continue
		}
		middle := p.Version()
		if e := p.Release(s); e != api.OK {
			t.Fatalf("%v, %v: %v", before, s, e)
		}
		is(t, p, 2*middle-version, before...)
	}
}

func TestNoTimeBeforeTheEarliest(t *testing.T) {
	r := rand.New(rand.NewSource(6))
	for range 2000 {
		p, _ := mixed(t, r, nil)
		from, long, width := r.Int63n(30)-3, 1+r.Int63n(8), 1+r.Intn(8)
		at, e := p.Earliest(from, long, width)
		if e == api.ErrNever {
			at = 60 // by then, nothing changes any more, as no time is at a limit
		}
		if enough := p.Least(at, at+long) >= width; enough != (e == api.OK) || at < from || at < p.Now() {
			t.Fatalf("%v: %d of %d from %d: %d, %v", p.Steps(), long, width, from, at, e)
		}
		for k := max(from, p.Now()); k < at; k++ {
			if p.Least(k, k+long) >= width {
				t.Fatalf("%v: %d of %d from %d: %d, not %d", p.Steps(), long, width, from, at, k)
			}
		}
	}
}

// All promises.

// mixed returns a profile to which several things were done, and its model.
func mixed(t *testing.T, r *rand.Rand, further []int64) (*prof.Profile, *model) {
	t.Helper()
	n := r.Intn(9)
	p, m := free(t, n), &model{all: n}
	for range r.Intn(12) {
		do(t, r, p, m, further)
	}
	return p, m
}

// do does the same to a profile and to its model, at times up to 26, at Forever, and at some further times, if there are any.
func do(t *testing.T, r *rand.Rand, p *prof.Profile, m *model, further []int64) {
	t.Helper()
	from, to, n := r.Int63n(27)-3, r.Int63n(27), r.Intn(9)-4
	switch k := r.Intn(12); {
	case k == 0 && further != nil:
		from = further[r.Intn(len(further))]
	case k == 1 && further != nil:
		to = further[r.Intn(len(further))]
	case k < 4:
		to = forever
	}
	var got, want api.Errno
	switch k := r.Intn(10); {
	case k == 0:
		at := m.now + r.Int63n(5) - 1
		got, want = p.Advance(at), m.advance(at)
	case k < 4 && n >= 0:
		got, want = p.Reserve(api.Span{From: from, To: to, Width: n}), m.add(from, to, -n)
	case k < 7 && n >= 0:
		got, want = p.Release(api.Span{From: from, To: to, Width: n}), m.add(from, to, n)
	default:
		got, want = p.Add(from, to, n), m.add(from, to, n)
	}
	if got != want {
		t.Fatalf("from %d to %d, %d: %v, not %v; %+v", from, to, n, got, want, m)
	}
}

func TestAsTheModel(t *testing.T) {
	r := rand.New(rand.NewSource(7))
	for range 400 {
		p, m := mixed(t, r, edges())
		m.twin(t, p)
		for range 5 {
			do(t, r, p, m, edges())
			m.twin(t, p)
		}
		for _, a := range edges() {
			if got, want := p.Free(a), m.free(a); got != want {
				t.Fatalf("at %d: %d, not %d; %+v", a, got, want, m)
			}
			for _, b := range edges() {
				if got, want := p.Least(a, b), m.least(a, b); got != want {
					t.Fatalf("from %d to %d: %d, not %d; %+v", a, b, got, want, m)
				}
			}
			for range 20 {
				long, width := r.Int63n(12), r.Intn(10)
				got, e := p.Earliest(a, long, width)
				if want, err := m.earliest(a, long, width); got != want || e != err {
					t.Fatalf("%d of %d from %d: %d, %v, not %d, %v; %+v", long, width, a, got, e, want, err, m)
				}
			}
		}
		m.twin(t, p)
	}
}

// Copies go on apart from each other, each as its own model.
func TestCopiesAsTheirModels(t *testing.T) {
	r := rand.New(rand.NewSource(8))
	for range 400 {
		p, m := mixed(t, r, edges())
		c, k := p.Copy(), *m
		k.parts = slices.Clone(m.parts)
		for range 12 {
			do(t, r, p, m, edges())
			do(t, r, c, &k, edges())
		}
		m.twin(t, p)
		k.twin(t, c)
	}
}

// Many steps: each width lies apart from its neighbours, and the only long gap comes last.
func TestManySteps(t *testing.T) {
	const n = 1 << 15
	p := free(t, 64)
	for i := range int64(n) {
		k := i * 7 % n // 7 and n have no factor in common
		if e := p.Reserve(api.Span{From: 10 * k, To: 10*k + 8, Width: 60}); e != api.OK {
			t.Fatal(e)
		}
	}
	l := p.Steps()
	if len(l) != 2*n || p.Version() != n {
		t.Fatalf("%d steps, version %d", len(l), p.Version())
	}
	for i, s := range l {
		if want := []api.Step{{At: int64(i/2) * 10, Free: 4}, {At: int64(i/2)*10 + 8, Free: 64}}[i%2]; s != want {
			t.Fatalf("step %d: %v, not %v", i, s, want)
		}
	}
	if at, e := p.Earliest(0, 3, 5); at != 10*n-2 || e != api.OK {
		t.Errorf("%d, %v", at, e)
	}
	if at, e := p.Earliest(0, 2, 64); at != 8 || e != api.OK {
		t.Errorf("%d, %v", at, e)
	}
	for i := range int64(n) {
		p.Release(api.Span{From: 10 * i, To: 10*i + 8, Width: 60})
	}
	is(t, p, 2*n, api.Step{At: 0, Free: 64})
}
