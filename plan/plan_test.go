package plan_test

import (
	"math"
	"math/rand"
	"slices"
	"testing"

	"berthage/api"
	"berthage/plan"
	"berthage/prof"
)

const latest = 1 << 40

// free returns a profile of so many free nodes.
func free(t *testing.T, n int) *prof.Profile {
	t.Helper()
	p, e := prof.New(n)
	if e != api.OK || p == nil {
		t.Fatalf("of %d: %v", n, e)
	}
	return p
}

// taken returns a profile of so many nodes, of which those of the spans are taken.
func taken(t *testing.T, n int, l ...api.Span) *prof.Profile {
	t.Helper()
	p := free(t, n)
	for _, s := range l {
		if e := p.Reserve(s); e != api.OK {
			t.Fatalf("%v: %v", s, e)
		}
	}
	return p
}

// item returns an item that has no plan.
func item(id, width int, limit int64) api.Item {
	return api.Item{Id: id, Width: width, Limit: limit, Plan: -1}
}

// planned returns an item that has a plan.
func planned(id, width int, limit, at int64) api.Item {
	return api.Item{Id: id, Width: width, Limit: limit, Plan: at}
}

// made returns a planner.
func made(t *testing.T, p *prof.Profile, depth int, l ...api.Item) *plan.Planner {
	t.Helper()
	x, e := plan.New(p, depth, l...)
	if e != api.OK || x == nil {
		t.Fatalf("%d of %v: %v", depth, l, e)
	}
	return x
}

// is fails unless a profile has these steps and this version.
func is(t *testing.T, p *prof.Profile, version int, want ...api.Step) {
	t.Helper()
	if got := p.Steps(); !slices.Equal(got, want) || p.Version() != version {
		t.Errorf("%v, version %d; want %v, version %d", got, p.Version(), want, version)
	}
}

// told fails unless a planner has these choices.
func told(t *testing.T, x *plan.Planner, want ...api.Choice) {
	t.Helper()
	if got := x.Choices(); !slices.Equal(got, want) {
		t.Errorf("%v; want %v", got, want)
	}
}

// Promise 14.1.

func TestRight(t *testing.T) {
	good := api.Item{Id: 1, Width: 1, Limit: 1, Plan: -1}
	if !plan.Right(good) || plan.Right(api.Item{}) {
		t.Error("the least item, or the zero one")
	}
	for n, want := range map[int]bool{math.MinInt: false, -1: false, 0: false, 1: true, 2: true, 63: true, 64: true, 65: false,
		1 << 32: false, 1<<32 + 1: false, math.MaxInt: false} {
		x := good
		if x.Width = n; plan.Right(x) != want {
			t.Errorf("the Width %d: %v", n, !want)
		}
	}
	for n, want := range map[int64]bool{math.MinInt64: false, -1: false, 0: false, 1: true, 2: true, 1<<20 - 1: true, 1 << 20: true,
		1<<20 + 1: false, 1<<32 + 1: false, latest: false, math.MaxInt64: false} {
		x := good
		if x.Limit = n; plan.Right(x) != want {
			t.Errorf("the Limit %d: %v", n, !want)
		}
	}
	for n, want := range map[int64]bool{math.MinInt64: false, -2: false, -1: true, 0: true, 1: true, 1 << 32: true, latest - 1: true,
		latest: true, latest + 1: false, api.Forever: false, math.MaxInt64: false} {
		x := good
		if x.Plan = n; plan.Right(x) != want {
			t.Errorf("the Plan %d: %v", n, !want)
		}
	}
	// The Id may be anything.
	for _, n := range []int{math.MinInt, -1, 0, 1 << 20, math.MaxInt} {
		x := good
		if x.Id = n; !plan.Right(x) {
			t.Errorf("the Id %d", n)
		}
	}
}

// wrong returns items that are not valid.
func wrong() []api.Item {
	return []api.Item{{}, item(1, 0, 1), item(1, 65, 1), item(1, 1, 0), item(1, 1, 1<<20+1), planned(1, 1, 1, -2), planned(1, 1, 1, latest+1)}
}

func TestNewWithoutAProfile(t *testing.T) {
	for _, p := range []*prof.Profile{nil, {}, new(prof.Profile), free(t, 4)} {
		for _, depth := range []int{math.MinInt, -1, 0, 1, 64, 65, 1 << 32, 1<<32 + 1, math.MaxInt} {
			// A wrong item comes after what is wrong with a profile or a depth.
			for _, l := range [][]api.Item{nil, {item(1, 1, 1)}, wrong()} {
				want := api.OK
				switch {
				case p.Copy() == nil || depth < 1 || depth > 64:
					want = api.ErrArg
				case len(l) > 1:
					want = api.ErrRange
				}
				x, e := plan.New(p, depth, l...)
				choices, err := plan.All(p, depth, l...)
				if e != want || err != want || (x == nil) != (want != api.OK) || want != api.OK && choices != nil {
					t.Errorf("%v, %d, %v: %v, %v, %v, %v; want %v", p, depth, l, x, e, choices, err, want)
				}
			}
		}
	}
}

// Only the items up to the depth must be valid.
func TestNewWithWrongItems(t *testing.T) {
	p := free(t, 4)
	for _, bad := range wrong() {
		l := []api.Item{item(1, 1, 1), item(2, 1, 1), bad, item(4, 1, 1)}
		for depth := 1; depth <= 64; depth++ {
			want := api.OK
			if depth > 2 {
				want = api.ErrRange
			}
			x, e := plan.New(p, depth, l...)
			if e != want || (x == nil) != (want != api.OK) {
				t.Errorf("%d of %v: %v", depth, l, e)
			}
			if x != nil && x.Left() != depth {
				t.Errorf("%d of %v: %d are left", depth, l, x.Left())
			}
		}
	}
	is(t, p, 0, api.Step{At: 0, Free: 4})
}

func TestNewDepth(t *testing.T) {
	p := free(t, 64)
	for _, n := range []int{0, 1, 2, 63, 64, 65, 200} {
		l := make([]api.Item, n)
		for i := range l {
			l[i] = item(i+1, 1, 10)
		}
		for _, depth := range []int{1, 2, 63, 64} {
			x := made(t, p, depth, l...)
			if x.Left() != min(n, depth) || len(x.Choices()) != 0 {
				t.Errorf("%d of %d: %d are left", depth, n, x.Left())
			}
			choices, e := plan.All(p, depth, l...)
			if e != api.OK || len(choices) != min(n, depth) {
				t.Fatalf("%d of %d: %d choices, %v", depth, n, len(choices), e)
			}
			for i, c := range choices {
				if c != (api.Choice{Id: i + 1, At: 0}) {
					t.Errorf("%d of %d: choice %d is %v", depth, n, i, c)
				}
			}
		}
	}
}

// The planner's profile is a copy: at first the same, then neither sees what the other one does.
func TestNewCopiesTheProfile(t *testing.T) {
	p := taken(t, 4, api.Span{From: 5, To: 10, Width: 3})
	p.Advance(3)
	steps := []api.Step{{At: 3, Free: 4}, {At: 5, Free: 1}, {At: 10, Free: 4}}
	x := made(t, p, 9, item(1, 4, 2))
	is(t, x.Profile, 2, steps...)
	if x.Now() != 3 || x.Free(7) != 1 || x.Least(3, 11) != 1 {
		t.Errorf("now %d, free %d and %d", x.Now(), x.Free(7), x.Least(3, 11))
	}
	p.Reserve(api.Span{From: 0, To: api.Forever, Width: 1})
	p.Advance(9)
	if x.Next(1) != 1 {
		t.Error("nothing was planned")
	}
	told(t, x, api.Choice{Id: 1, At: 3})
	is(t, x.Profile, 3, api.Step{At: 3, Free: 0}, api.Step{At: 5, Free: 1}, api.Step{At: 10, Free: 4})
	is(t, p, 4, api.Step{At: 9, Free: 0}, api.Step{At: 10, Free: 3})
}

// What becomes of the list afterwards is nothing to the planner.
func TestNewCopiesTheItems(t *testing.T) {
	p := free(t, 4)
	l := []api.Item{item(1, 3, 10), item(2, 3, 10), item(3, 1, 10)}
	before := slices.Clone(l)
	x := made(t, p, 2, l...)
	x.Next(1)
	if !slices.Equal(l, before) {
		t.Errorf("changed: %v", l)
	}
	for i := range l {
		l[i] = api.Item{Id: 9, Width: 99, Limit: -1, Plan: -9}
	}
	x.Next(9)
	told(t, x, api.Choice{Id: 1, At: 0}, api.Choice{Id: 2, At: 10})
}

// Promise 14.2.

func TestExample(t *testing.T) {
	p := free(t, 4)
	l := []api.Item{item(1, 3, 10), item(2, 3, 10), item(3, 1, 10)}
	want := []api.Choice{{Id: 1, At: 0}, {Id: 2, At: 10}, {Id: 3, At: 0}}
	got, e := plan.All(p, 9, l...)
	if e != api.OK || !slices.Equal(got, want) {
		t.Errorf("%v, %v", got, e)
	}
	if got, e = plan.All(p, 2, l...); e != api.OK || !slices.Equal(got, want[:2]) {
		t.Errorf("of two: %v, %v", got, e)
	}
	if got, e = plan.All(p, 1); e != api.OK || len(got) != 0 {
		t.Errorf("of none: %v, %v", got, e)
	}
	is(t, p, 0, api.Step{At: 0, Free: 4})
	// The order counts, not the ids.
	got, e = plan.All(p, 9, l[1], l[0], l[2])
	if e != api.OK || !slices.Equal(got, []api.Choice{{Id: 2, At: 0}, {Id: 1, At: 10}, {Id: 3, At: 0}}) {
		t.Errorf("in another order: %v, %v", got, e)
	}
}

func TestNext(t *testing.T) {
	p := free(t, 4)
	l := []api.Item{item(1, 3, 10), item(2, 5, 10), item(3, 3, 10), item(4, 1, 10)}
	x := made(t, p, 9, l...)
	var want []api.Choice
	for i, s := range []struct {
		n, got, left int
		more         []api.Choice
	}{
		{math.MinInt, 0, 4, nil},
		{-1, 0, 4, nil},
		{0, 0, 4, nil},
		{1, 1, 3, []api.Choice{{Id: 1, At: 0}}},
		{0, 0, 3, nil},
		{2, 2, 1, []api.Choice{{Id: 3, At: 10}}}, // that of 5 nodes has no choice
		{-2, 0, 1, nil},
		{math.MaxInt, 1, 0, []api.Choice{{Id: 4, At: 0}}},
		{1, 0, 0, nil},
		{math.MaxInt, 0, 0, nil},
		{math.MinInt, 0, 0, nil},
	} {
		if got := x.Next(s.n); got != s.got || x.Left() != s.left {
			t.Errorf("%d: Next(%d) is %d, %d are left", i, s.n, got, x.Left())
		}
		want = append(want, s.more...)
		told(t, x, want...)
	}
	is(t, p, 0, api.Step{At: 0, Free: 4})
	is(t, x.Profile, 3, api.Step{At: 0, Free: 0}, api.Step{At: 10, Free: 1}, api.Step{At: 20, Free: 4})
}

func TestPlanning(t *testing.T) {
	busy := api.Span{From: 5, To: 15, Width: 3}
	steps := []api.Step{{At: 0, Free: 4}, {At: 5, Free: 1}, {At: 15, Free: 4}}
	for _, s := range []struct {
		name    string
		x       api.Item
		want    []api.Choice
		version int
		steps   []api.Step
	}{
		{"before what is taken", item(1, 4, 5), []api.Choice{{Id: 1, At: 0}}, 2, []api.Step{{At: 0, Free: 0}, {At: 5, Free: 1}, {At: 15, Free: 4}}},
		{"behind what is taken", item(1, 4, 6), []api.Choice{{Id: 1, At: 15}}, 2, []api.Step{{At: 0, Free: 4}, {At: 5, Free: 1}, {At: 15, Free: 0}, {At: 21, Free: 4}}},
		{"beside what is taken", item(1, 1, 20), []api.Choice{{Id: 1, At: 0}}, 2, []api.Step{{At: 0, Free: 3}, {At: 5, Free: 0}, {At: 15, Free: 3}, {At: 20, Free: 4}}},
		{"never", item(1, 5, 1), nil, 1, steps},
		{"its own plan is not in its way", planned(1, 3, 10, 5), []api.Choice{{Id: 1, At: 0}}, 3, []api.Step{{At: 0, Free: 1}, {At: 10, Free: 4}}},
		{"it can't be earlier", planned(1, 7, 10, 5), nil, 3, steps},
		{"it is at now already", planned(1, 1, 10, 0), nil, 3, steps},
		{"wider than all nodes, but for its plan", planned(1, 5, 10, 15), nil, 3, steps},
		{"as early as its plan", planned(1, 4, 6, 15), nil, 3, steps},
		{"earlier by the least", planned(1, 4, 6, 16), []api.Choice{{Id: 1, At: 15}}, 3, []api.Step{{At: 0, Free: 4}, {At: 5, Free: 1}, {At: 15, Free: 0}, {At: 16, Free: 4}, {At: 21, Free: 8}, {At: 22, Free: 4}}},
		{"too many would be free", planned(1, 61, 10, 0), nil, 1, steps},
		{"too many would be free for the least time", planned(1, 61, 10, 14), nil, 1, steps},
		{"as many would be free as there can be", planned(1, 60, 5, 0), nil, 3, steps},
		{"more would be free, but in between", planned(1, 63, 10, 5), nil, 3, steps},
	} {
		p := taken(t, 4, busy)
		x := made(t, p, 1, s.x)
		if n := x.Next(1); n != 1 || x.Left() != 0 {
			t.Errorf("%s: %d planned, %d left", s.name, n, x.Left())
		}
		told(t, x, s.want...)
		is(t, x.Profile, s.version, s.steps...)
		is(t, p, 1, steps...)
		if t.Failed() {
			t.Fatal(s.name)
		}
	}
}

// A skipped item has no choice, changes nothing, and does not keep the next ones from being planned.
func TestSkipped(t *testing.T) {
	p := free(t, 64)
	x := made(t, p, 9, planned(1, 1, 10, 5), item(2, 64, 7), planned(3, 2, 10, 7), planned(4, 2, 10, 3))
	if x.Next(1) != 1 || x.Left() != 3 || len(x.Choices()) != 0 {
		t.Errorf("%v, %d left", x.Choices(), x.Left())
	}
	is(t, x.Profile, 0, api.Step{At: 0, Free: 64})
	if x.Next(9) != 3 || x.Left() != 0 {
		t.Errorf("%d left", x.Left())
	}
	told(t, x, api.Choice{Id: 2, At: 0})
	is(t, x.Profile, 1, api.Step{At: 0, Free: 0}, api.Step{At: 7, Free: 64})
}

// Each item is planned around the choices of those before it, also where these leave their plans.
func TestOneAfterTheOther(t *testing.T) {
	p := taken(t, 4, api.Span{From: 0, To: 3, Width: 4}, api.Span{From: 10, To: 20, Width: 4}, api.Span{From: 20, To: 25, Width: 2})
	l := []api.Item{planned(1, 4, 10, 10), planned(2, 2, 5, 20), item(3, 2, 5), item(4, 4, 1)}
	got, e := plan.All(p, 64, l...)
	want := []api.Choice{{Id: 1, At: 3}, {Id: 2, At: 13}, {Id: 3, At: 13}, {Id: 4, At: 18}}
	if e != api.OK || !slices.Equal(got, want) {
		t.Errorf("%v, %v", got, e)
	}
}

// From now on: what lies before it is no choice, and a plan before it stays.
func TestNow(t *testing.T) {
	p := taken(t, 4, api.Span{From: 5, To: 15, Width: 2})
	p.Advance(10)
	steps := []api.Step{{At: 10, Free: 2}, {At: 15, Free: 4}}
	for _, s := range []struct {
		x       api.Item
		want    []api.Choice
		version int
	}{
		{item(1, 2, 1), []api.Choice{{Id: 1, At: 10}}, 3},
		{item(1, 3, 1), []api.Choice{{Id: 1, At: 15}}, 3},
		{planned(1, 2, 10, 5), nil, 4},  // from now on it could begin at 10, which is later
		{planned(1, 2, 10, 10), nil, 4}, // at now already
		{planned(1, 2, 5, 5), nil, 2},   // over
		{planned(1, 64, 3, 0), nil, 2},  // over, so that nothing of it is released
		{planned(1, 62, 10, 5), nil, 4}, // for its whole Limit there is never enough
		{planned(1, 63, 10, 5), nil, 2}, // skipped
		{planned(1, 60, 10, 9), nil, 4}, // only what is left of it is released
		{planned(1, 62, 5, 10), nil, 4}, // as wide as its plan
		{planned(1, 61, 9, 12), nil, 2}, // skipped
		{planned(1, 2, 1, 11), []api.Choice{{Id: 1, At: 10}}, 4},
	} {
		x := made(t, p, 9, s.x)
		x.Next(1)
		told(t, x, s.want...)
		if x.Version() != s.version || len(s.want) == 0 && !slices.Equal(x.Steps(), steps) {
			t.Errorf("%v: %v, version %d", s.x, x.Steps(), x.Version())
		}
	}
	is(t, p, 2, steps...)
}

// The profile of a planner is its own to be changed, by the methods that it has from it.
func TestPromoted(t *testing.T) {
	x := made(t, free(t, 4), 9, item(1, 4, 5), item(2, 4, 5), item(3, 4, 5))
	x.Next(1)
	if e := x.Advance(7); e != api.OK {
		t.Fatal(e)
	}
	x.Next(1)
	if e := x.Reserve(api.Span{From: 12, To: 20, Width: 1}); e != api.OK {
		t.Fatal(e)
	}
	x.Next(1)
	told(t, x, api.Choice{Id: 1, At: 0}, api.Choice{Id: 2, At: 7}, api.Choice{Id: 3, At: 20})
}

func TestLimits(t *testing.T) {
	// The last time that is chosen is MaxTime.
	for to, want := range map[int64][]api.Choice{latest: {{Id: 1, At: latest}}, latest + 1: nil, api.Forever: nil} {
		p := taken(t, 64, api.Span{From: 0, To: to, Width: 1})
		got, e := plan.All(p, 1, item(1, 64, 1<<20))
		if e != api.OK || !slices.Equal(got, want) {
			t.Errorf("taken up to %d: %v, %v", to, got, e)
		}
	}
	// A plan may lie at MaxTime.
	p := taken(t, 64, api.Span{From: latest, To: latest + 1<<20, Width: 64})
	x := made(t, p, 1, planned(1, 64, 1<<20, latest))
	x.Next(1)
	told(t, x, api.Choice{Id: 1, At: 0})
	is(t, x.Profile, 3, api.Step{At: 0, Free: 0}, api.Step{At: 1 << 20, Free: 64})
	// At MaxTime, time is up for all but what fits at once.
	p = taken(t, 4, api.Span{From: latest, To: latest + 5, Width: 2})
	p.Advance(latest)
	got, e := plan.All(p, 9, item(1, 3, 1), item(2, 2, 1<<20), item(3, 1, 5), item(4, 1, 1), planned(5, 1, 1, latest))
	if e != api.OK || !slices.Equal(got, []api.Choice{{Id: 2, At: latest}}) {
		t.Errorf("%v, %v", got, e)
	}
	// No node at all.
	if got, e = plan.All(free(t, 0), 9, item(1, 1, 1), item(2, 64, 1<<20)); e != api.OK || len(got) != 0 {
		t.Errorf("%v, %v", got, e)
	}
}

// Items may have the same Id, or an odd one.
func TestIds(t *testing.T) {
	got, e := plan.All(free(t, 1), 9, item(7, 1, 2), item(7, 1, 2), item(-1, 1, 2), item(0, 1, 2), item(math.MaxInt, 1, 2))
	if e != api.OK || !slices.Equal(got, []api.Choice{{Id: 7, At: 0}, {Id: 7, At: 2}, {Id: -1, At: 4}, {Id: 0, At: 6}, {Id: math.MaxInt, At: 8}}) {
		t.Errorf("%v, %v", got, e)
	}
}

func TestChoicesAreNew(t *testing.T) {
	x := made(t, free(t, 1), 64, item(1, 1, 2), item(2, 1, 2), item(3, 1, 2), item(4, 1, 2), item(5, 1, 2))
	x.Next(3)
	want := []api.Choice{{Id: 1, At: 0}, {Id: 2, At: 2}, {Id: 3, At: 4}}
	a, b := x.Choices(), x.Choices()
	for i := range a {
		a[i] = api.Choice{Id: 77, At: 77}
	}
	_ = append(a[:1], api.Choice{Id: 78, At: 78})
	told(t, x, want...)
	c := append(x.Choices(), api.Choice{Id: 79, At: 79})
	x.Next(2)
	told(t, x, append(want, api.Choice{Id: 4, At: 6}, api.Choice{Id: 5, At: 8})...)
	if !slices.Equal(b, want) || c[3].Id != 79 {
		t.Errorf("changed later: %v, %v", b, c)
	}
}

func TestNone(t *testing.T) {
	for _, x := range []*plan.Planner{nil, {}, new(plan.Planner), {Profile: free(t, 4)}, {Profile: new(prof.Profile)}} {
		for _, n := range []int{math.MinInt, -1, 0, 1, 64, math.MaxInt} {
			if got := x.Next(n); got != 0 || x.Left() != 0 || len(x.Choices()) != 0 {
				t.Errorf("Next(%d): %d, %d left, %v", n, got, x.Left(), x.Choices())
			}
		}
	}
	// Without its profile a planner has no more choices.
	for _, p := range []*prof.Profile{nil, {}} {
		x := made(t, free(t, 4), 9, item(1, 1, 1), item(2, 1, 1), planned(3, 1, 1, 5))
		x.Next(1)
		x.Profile = p
		if x.Next(9) != 2 || x.Left() != 0 {
			t.Errorf("%d left", x.Left())
		}
		told(t, x, api.Choice{Id: 1, At: 0})
	}
}

// Promise 14.3, and all promises.

// model is a profile of which the number of free nodes is kept for each time; the last one holds forever.
type model struct {
	now  int64
	free [240]int
}

func (m *model) add(from, to int64, n int) bool {
	for k := max(from, m.now); k < to; k++ {
		if m.free[k]+n < 0 || m.free[k]+n > 64 {
			return false
		}
	}
	for k := max(from, m.now); k < to; k++ {
		m.free[k] += n
	}
	return true
}

func (m *model) fits(at, long int64, width int) bool {
	for k := at; k < at+long; k++ {
		if m.free[k] < width {
			return false
		}
	}
	return true
}

// plan returns when an item is to start, if it has a choice.
func (m *model) plan(x api.Item) (int64, bool) {
	if x.Plan >= 0 && !m.add(x.Plan, x.Plan+x.Limit, x.Width) {
		return 0, false
	}
	for at := m.now; at+x.Limit < int64(len(m.free)); at++ {
		if m.fits(at, x.Limit, x.Width) && (x.Plan < 0 || at < x.Plan) {
			m.add(at, at+x.Limit, -x.Width)
			return at, true
		}
	}
	if x.Plan >= 0 {
		m.add(x.Plan, x.Plan+x.Limit, -x.Width)
	}
	return 0, false
}

func (m *model) steps() []api.Step {
	l := []api.Step{{At: m.now, Free: m.free[m.now]}}
	for k := m.now; k < int64(len(m.free)); k++ {
		if n := m.free[k]; n != l[len(l)-1].Free {
			l = append(l, api.Step{At: k, Free: n})
		}
	}
	return l
}

// mixed returns a profile, its model and items, of which some have plans, and most of these are reserved.
func mixed(t *testing.T, r *rand.Rand) (*prof.Profile, *model, []api.Item) {
	t.Helper()
	all := []int{1, 4, 8, 64}[r.Intn(4)]
	p, m := free(t, all), &model{}
	for i := range m.free {
		m.free[i] = all
	}
	reserve := func(from, to int64, n int) bool {
		ok := m.add(from, to, -n)
		if e := p.Reserve(api.Span{From: from, To: to, Width: n}); (e == api.OK) != ok {
			t.Fatalf("from %d to %d, %d: %v", from, to, n, e)
		}
		return ok
	}
	for range r.Intn(4) {
		from := r.Int63n(10)
		reserve(from, from+1+r.Int63n(10), 1+r.Intn(all))
	}
	var l []api.Item
	for i := range r.Intn(13) {
		x := item(i+1, 1+r.Intn(min(all+1, 64)), 1+r.Int63n(8))
		if at := r.Int63n(30); r.Intn(2) == 0 && (reserve(at, at+x.Limit, x.Width) || r.Intn(8) == 0) {
			x.Plan = at
		}
		l = append(l, x)
	}
	if m.now = r.Int63n(8); p.Advance(m.now) != api.OK {
		t.Fatal("the time does not pass")
	}
	r.Shuffle(len(l), func(i, j int) { l[i], l[j] = l[j], l[i] })
	return p, m, l
}

func TestAsTheModel(t *testing.T) {
	r := rand.New(rand.NewSource(14))
	for range 5000 {
		p, m, l := mixed(t, r)
		before, version, depth := p.Steps(), p.Version(), 1+r.Intn(14)
		x := made(t, p, depth, l...)
		var want []api.Choice
		for i, y := range l[:min(depth, len(l))] {
			if x.Left() != min(depth, len(l))-i || x.Next(1) != 1 {
				t.Fatalf("%v, %d of %v: %d left at %d", before, depth, l, x.Left(), i)
			}
			if at, ok := m.plan(y); ok {
				want = append(want, api.Choice{Id: y.Id, At: at})
			}
			if !slices.Equal(x.Choices(), want) || !slices.Equal(x.Steps(), m.steps()) {
				t.Fatalf("%v, %v: %v, then %v; want %v, then %v", before, l[:i+1], x.Choices(), x.Steps(), want, m.steps())
			}
		}
		if x.Next(1) != 0 || x.Left() != 0 {
			t.Fatal("more than all items")
		}
		is(t, p, version, before...)
		if all, e := plan.All(p, depth, l...); e != api.OK || !slices.Equal(all, want) {
			t.Fatalf("%v, %d of %v: %v, %v; want %v", before, depth, l, all, e, want)
		}
		is(t, p, version, before...)
	}
}

func TestHoweverItIsDivided(t *testing.T) {
	r := rand.New(rand.NewSource(15))
	for range 2000 {
		p, _, l := mixed(t, r)
		items, before, version := slices.Clone(l), p.Steps(), p.Version()
		want, e := plan.All(p, 64, l...)
		if e != api.OK {
			t.Fatal(e)
		}
		whole := made(t, p, 64, l...)
		whole.Next(math.MaxInt)
		for range 4 {
			x := made(t, p, 64, l...)
			for x.Left() > 0 {
				n, left := r.Intn(7)-1, x.Left()
				if got := x.Next(n); got != max(0, min(n, left)) || x.Left() != left-got {
					t.Fatalf("Next(%d) of %d: %d, %d left", n, left, got, x.Left())
				}
			}
			if !slices.Equal(x.Choices(), want) {
				t.Fatalf("%v, %v: %v; want %v", before, l, x.Choices(), want)
			}
			is(t, x.Profile, whole.Version(), whole.Steps()...)
		}
		is(t, p, version, before...)
		if !slices.Equal(l, items) {
			t.Fatalf("changed: %v; before %v", l, items)
		}
	}
}

func TestNoChoiceIsLaterThanThePlan(t *testing.T) {
	r := rand.New(rand.NewSource(16))
	seen := 0
	for range 2000 {
		p, _, l := mixed(t, r)
		choices, e := plan.All(p, 64, l...)
		if e != api.OK {
			t.Fatal(e)
		}
		for _, c := range choices {
			x := l[slices.IndexFunc(l, func(x api.Item) bool { return x.Id == c.Id })]
			if c.At < p.Now() || x.Plan >= 0 && c.At >= x.Plan {
				t.Fatalf("%v, %v: %v", p.Steps(), x, c)
			}
			if x.Plan >= 0 {
				seen++
			}
		}
	}
	if seen < 500 {
		t.Errorf("only %d plans are made earlier", seen)
	}
}
