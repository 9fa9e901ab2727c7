package core_test

import (
	"math"
	"slices"
	"testing"

	"berthage/api"
	"berthage/core"
	"berthage/job"
	"berthage/node"
	"berthage/prof"
	"berthage/set"
)

// made returns a core of n nodes.
func made(t *testing.T, n int) *core.Core {
	t.Helper()
	c, e := core.New(n)
	if e != api.OK || c == nil {
		t.Fatalf("New(%d): %v", n, e)
	}
	return c
}

// all performs every part of a Work, and returns how many there were.
func all(t *testing.T, c *core.Core, w *core.Work) int {
	t.Helper()
	for n := 1; n < 2000; n++ {
		if w.Done() {
			t.Fatalf("done before part %d", n)
		}
		left := !w.Step(c)
		if left == w.Done() {
			t.Fatalf("part %d: left %v, done %v", n, left, w.Done())
		}
		if !left {
			return n
		}
	}
	t.Fatal("no last part")
	return 0
}

// ask performs a request that must have so many parts and no error, and returns its reply.
func ask(t *testing.T, c *core.Core, r api.Request, parts int) api.Reply {
	t.Helper()
	w := core.NewWork(r)
	if n := all(t, c, w); n != parts || w.Reply().Err != api.OK || w.OK() {
		t.Fatalf("%+v: %d parts, %+v; want %d parts", r, n, w.Reply(), parts)
	}
	return w.Reply()
}

// refuse performs a request that must return an error in its only part, and change nothing.
func refuse(t *testing.T, c *core.Core, r api.Request, want api.Errno) {
	t.Helper()
	before, w := c.Twin(), core.NewWork(r)
	if n := all(t, c, w); n != 1 || w.Reply() != (api.Reply{Err: want}) || w.OK() {
		t.Fatalf("%+v: %d parts, %+v; want %v", r, n, w.Reply(), want)
	}
	alike(t, c, before)
}

// take performs a choice that must take effect, or must not.
func take(t *testing.T, c *core.Core, id int, at int64, want bool) {
	t.Helper()
	before, x := c.Twin(), api.Choice{Id: id, At: at}
	if c.Fits(x) != want {
		t.Fatalf("%+v fits: %v", x, !want)
	}
	w, parts := core.NewCommit(x), 1
	if want {
		parts = 4
	}
	if n := all(t, c, w); n != parts || w.OK() != want || w.Reply() != (api.Reply{}) {
		t.Fatalf("%+v: %d parts, %v, %+v; want %d, %v", x, n, w.OK(), w.Reply(), parts, want)
	}
	if !want {
		alike(t, c, before)
	}
}

// alike fails the test if two cores differ.
func alike(t *testing.T, a, b *core.Core) {
	t.Helper()
	if a.Closed() != b.Closed() || a.Now() != b.Now() || a.Version() != b.Version() || a.Size() != b.Size() {
		t.Fatalf("closed %v and %v, now %d and %d, version %d and %d",
			a.Closed(), b.Closed(), a.Now(), b.Now(), a.Version(), b.Version())
	}
	if !slices.Equal(a.All(), b.All()) {
		t.Fatalf("jobs %+v and %+v", a.All(), b.All())
	}
	for n := range a.Size() {
		if a.State(n) != b.State(n) {
			t.Fatalf("node %d is %d and %d", n, a.State(n), b.State(n))
		}
	}
	if !slices.Equal(a.Steps(), b.Steps()) {
		t.Fatalf("steps %v and %v", a.Steps(), b.Steps())
	}
}

// steps fails the test if the profile does not have these steps, given as pairs of a time and a number.
func steps(t *testing.T, c *core.Core, l ...int64) {
	t.Helper()
	var want []api.Step
	for i := 0; i < len(l); i += 2 {
		want = append(want, api.Step{At: l[i], Free: int(l[i+1])})
	}
	if !slices.Equal(c.Steps(), want) {
		t.Fatalf("steps %v; want %v", c.Steps(), want)
	}
}

// get returns a job.
func get(t *testing.T, c *core.Core, id int) api.Job {
	t.Helper()
	j, e := c.Get(id)
	if e != api.OK {
		t.Fatalf("job %d: %v", id, e)
	}
	return j
}

// asked returns a valid request for a job.
func asked(width int, limit int64, prio int) api.Request {
	return api.Request{Kind: api.ReqSubmit, User: 7, Width: width, Limit: limit, Prio: prio}
}

// held returns a valid request for a held job.
func held(width int, limit int64, prio int) api.Request {
	r := asked(width, limit, prio)
	r.Held = true
	return r
}

// of returns a request for a job.
func of(kind, id int) api.Request {
	return api.Request{Kind: kind, Id: id}
}

// at returns a request for a node.
func at(kind, n int) api.Request {
	return api.Request{Kind: kind, Node: n}
}

// tick returns a request for time.
func tick(by int64) api.Request {
	return api.Request{Kind: api.ReqTick, By: by}
}

// three returns a core of 4 nodes with three jobs for 10: one of 2 nodes that runs, and two of 3 with plans at 10 and 20.
func three(t *testing.T) *core.Core {
	t.Helper()
	c := made(t, 4)
	ask(t, c, asked(2, 10, 0), 2)
	ask(t, c, asked(3, 10, 0), 2)
	ask(t, c, asked(3, 10, 0), 2)
	take(t, c, 1, 0, true)
	take(t, c, 2, 10, true)
	take(t, c, 3, 20, true)
	steps(t, c, 0, 2, 10, 1, 30, 4)
	return c
}

// nones returns cores that no call returned.
func nones(t *testing.T) []*core.Core {
	nodes, _ := node.New(4)
	profile, _ := prof.New(4)
	return []*core.Core{nil, {}, {Jobs: job.New(), Nodes: nodes, Profile: profile}, new(core.Core)}
}

func TestNew(t *testing.T) {
	for _, n := range []int{math.MinInt, -64, -1, 0, 65, 66, 128, 1 << 32, math.MaxInt} {
		if c, e := core.New(n); c != nil || e != api.ErrArg {
			t.Errorf("New(%d): %v, %v", n, c, e)
		}
	}
	for n := 1; n <= 64; n++ {
		c := made(t, n)
		if c.None() || c.Closed() || c.Now() != 0 || c.Len() != 0 || c.Idle() != set.All(n) || c.Used() != 0 {
			t.Errorf("New(%d): %v", n, c)
		}
		(&model{size: n}).same(t, c)
		steps(t, c, 0, int64(n))
	}
}

func TestNewCoresAreApart(t *testing.T) {
	a, b := made(t, 4), made(t, 4)
	ask(t, a, asked(1, 1, 1), 2)
	ask(t, a, at(api.ReqDrain, 0), 1)
	ask(t, a, tick(1), 1)
	(&model{size: 4}).same(t, b)
}

func TestParts(t *testing.T) {
	c := made(t, 4)
	var jobs *core.Jobs = c.Jobs
	var nodes *core.Nodes = c.Nodes
	var profile *core.Profile = c.Profile
	ask(t, c, asked(1, 5, 0), 2)
	take(t, c, 1, 0, true)
	if jobs.Len() != 1 || nodes.State(0) != api.Busy || profile.Free(0) != 3 {
		t.Fatal(jobs, nodes, profile)
	}
}

func TestNone(t *testing.T) {
	for i, c := range nones(t) {
		if !c.None() || !c.Closed() || c.Twin() != nil || len(c.Spans()) != 0 || len(c.Should()) != 0 {
			t.Errorf("core %d: %v", i, c)
		}
		for n := -1; n <= 64; n++ {
			if c.Holder(n) != (api.Job{}) || c.Fits(api.Choice{Id: n, At: int64(n)}) {
				t.Errorf("core %d: node %d", i, n)
			}
		}
		if e := core.Wants(c, asked(3, 1, 0)); e != api.OK {
			t.Errorf("core %d: %v", i, e)
		}
	}
	c := three(t)
	if c.None() || c.Twin().None() {
		t.Error("none")
	}
}

func TestWorkOnNone(t *testing.T) {
	for i := range nones(t) {
		for kind := -1; kind <= 14; kind++ {
			c, w := nones(t)[i], core.NewWork(api.Request{Kind: kind, Width: 1, Limit: 1, By: 1})
			if n := all(t, c, w); n != 1 || w.Reply() != (api.Reply{Err: api.ErrState}) || w.OK() {
				t.Errorf("core %d, kind %d: %d parts, %+v", i, kind, n, w.Reply())
			}
		}
		c, w := nones(t)[i], core.NewCommit(api.Choice{Id: 1})
		if n := all(t, c, w); n != 1 || w.Reply() != (api.Reply{Err: api.ErrState}) || w.OK() {
			t.Errorf("core %d: %d parts, %+v, %v", i, n, w.Reply(), w.OK())
		}
	}
}

func TestWorkThatGoesOnOnNone(t *testing.T) {
	c := made(t, 4)
	w := core.NewWork(asked(1, 1, 0))
	if w.Step(c) || !w.Step(nil) || w.Reply() != (api.Reply{Err: api.ErrState}) {
		t.Fatalf("%+v", w.Reply())
	}
	w = core.NewCommit(api.Choice{Id: 1})
	if w.Step(c) || !w.OK() || !w.Step(nil) || w.Reply() != (api.Reply{Err: api.ErrState}) || w.OK() {
		t.Fatalf("%+v", w.Reply())
	}
	if get(t, c, 1).State != api.Pending {
		t.Fatal("begun")
	}
}

func TestClosed(t *testing.T) {
	c := three(t)
	before := c.Twin()
	if r := ask(t, c, of(api.ReqStop, 0), 1); r != (api.Reply{}) || !c.Closed() || c.None() || before.Closed() {
		t.Fatalf("%+v, %v", r, c.Closed())
	}
	if !slices.Equal(c.All(), before.All()) || !slices.Equal(c.Steps(), before.Steps()) || !slices.Equal(c.Should(), c.Steps()) {
		t.Fatal("more than closed")
	}
	for kind := -2; kind <= 20; kind++ {
		refuse(t, c, api.Request{Kind: kind, Id: 2, Width: 1, Limit: 1, Node: 1, By: 1}, api.ErrClosed)
	}
	refuse(t, c, asked(0, 0, -1), api.ErrClosed)
	refuse(t, c, of(api.ReqQuery, 9), api.ErrClosed)
	w := core.NewCommit(api.Choice{Id: 2, At: 10})
	if n := all(t, c, w); n != 1 || w.OK() {
		t.Fatalf("%d parts, %v", n, w.OK())
	}
	w = core.NewCommit(api.Choice{Id: 3, At: 19})
	if c.Fits(api.Choice{Id: 3, At: 19}) || all(t, c, w) != 1 || w.OK() || w.Reply() != (api.Reply{Err: api.ErrClosed}) {
		t.Fatalf("%v, %+v", w.OK(), w.Reply())
	}
	if len(c.Spans()) != 2 || c.Holder(0).Id != 1 {
		t.Fatal("a closed core tells nothing")
	}
}

// A core that is closed between two parts does not end a Work.
func TestClosedBetweenParts(t *testing.T) {
	c := three(t)
	w := core.NewWork(of(api.ReqCancel, 1))
	w.Step(c)
	ask(t, c, of(api.ReqStop, 0), 1)
	if n := all(t, c, w); n != 2 || w.Reply().Err != api.OK || c.State(0) != api.Idle {
		t.Fatal(n, w.Reply())
	}
	steps(t, c, 0, 4, 10, 1, 30, 4)
}

func TestUnknownKinds(t *testing.T) {
	c := three(t)
	for _, kind := range []int{math.MinInt, -1, 0, 14, 15, 257, 1<<32 + 1, math.MaxInt} {
		refuse(t, c, api.Request{Kind: kind, Id: 1, Width: 1, Limit: 1, By: 1}, api.ErrForm)
	}
}

func TestTwin(t *testing.T) {
	c := three(t)
	ask(t, c, at(api.ReqDrain, 3), 3)
	d := c.Twin()
	alike(t, c, d)
	ask(t, c, of(api.ReqComplete, 1), 3)
	ask(t, c, tick(5), 1)
	ask(t, c, of(api.ReqStop, 0), 1)
	if d.Closed() || get(t, d, 1).State != api.Running || d.State(0) != api.Busy || d.Now() != 0 {
		t.Fatal("the twin has changed")
	}
	steps(t, d, 0, 1, 10, 3)
	if e := c.Twin(); !e.Closed() || e.None() {
		t.Fatal("the twin of a closed core is not closed")
	}
	before := c.Twin()
	ask(t, d, of(api.ReqCancel, 2), 3)
	ask(t, d, at(api.ReqResume, 3), 1)
	ask(t, d, tick(30), 2)
	alike(t, c, before)
}

func TestPlan(t *testing.T) {
	for _, x := range []struct {
		state int
		plan  int64
		want  api.Span
		ok    bool
	}{
		{api.Pending, 0, api.Span{From: 0, To: 10, Width: 3}, true},
		{api.Pending, 5, api.Span{From: 5, To: 15, Width: 3}, true},
		{api.Pending, 1 << 40, api.Span{From: 1 << 40, To: 1<<40 + 10, Width: 3}, true},
		{api.Pending, -1, api.Span{}, false},
		{api.Pending, -2, api.Span{}, false},
		{api.Pending, math.MinInt64, api.Span{}, false},
		{api.Held, 5, api.Span{}, false},
		{api.Running, 5, api.Span{}, false},
		{api.Completed, 5, api.Span{}, false},
		{api.Cancelled, 5, api.Span{}, false},
		{api.TimedOut, 5, api.Span{}, false},
		{0, 5, api.Span{}, false},
		{7, 5, api.Span{}, false},
	} {
		s, ok := core.Plan(api.Job{Id: 1, State: x.state, Plan: x.plan, Limit: 10, Width: 3, Start: 1, End: 2})
		if s != x.want || ok != x.ok {
			t.Errorf("%+v: %v, %v", x, s, ok)
		}
	}
	s, ok := core.Plan(api.Job{State: api.Pending, Plan: math.MaxInt64, Limit: math.MaxInt64})
	if !ok || s.To < 0 {
		t.Errorf("%v, %v", s, ok)
	}
}

func TestSpans(t *testing.T) {
	c := made(t, 8)
	if len(c.Spans()) != 0 {
		t.Fatal(c.Spans())
	}
	ask(t, c, asked(1, 5, 0), 2)
	ask(t, c, held(2, 5, 0), 1)
	ask(t, c, asked(3, 6, 9), 2)
	ask(t, c, asked(4, 7, 500), 2)
	take(t, c, 4, 30, true)
	take(t, c, 3, 20, true)
	take(t, c, 1, 40, true)
	want := []api.Span{{From: 40, To: 45, Width: 1}, {From: 20, To: 26, Width: 3}, {From: 30, To: 37, Width: 4}}
	if !slices.Equal(c.Spans(), want) {
		t.Fatal(c.Spans())
	}
	c.Spans()[0] = api.Span{}
	if !slices.Equal(c.Spans(), want) {
		t.Fatal(c.Spans())
	}
}

func TestHolder(t *testing.T) {
	c := made(t, 4)
	ask(t, c, asked(2, 10, 0), 2)
	if c.Holder(0) != (api.Job{}) {
		t.Fatal(c.Holder(0))
	}
	take(t, c, 1, 0, true)
	for _, n := range []int{0, 1} {
		if c.Holder(n) != get(t, c, 1) || c.Holder(n).Id != 1 {
			t.Fatal(c.Holder(n))
		}
	}
	for _, n := range []int{math.MinInt, -64, -1, 2, 3, 4, 63, 64, 65, 1 << 32, math.MaxInt} {
		if c.Holder(n) != (api.Job{}) {
			t.Fatal(n, c.Holder(n))
		}
	}
	ask(t, c, of(api.ReqComplete, 1), 3)
	if c.Holder(0) != (api.Job{}) {
		t.Fatal("an ended job has a node")
	}
}

func TestHolderOfTheHighestNode(t *testing.T) {
	c := made(t, 64)
	ask(t, c, asked(64, 10, 0), 2)
	take(t, c, 1, 0, true)
	if c.Holder(63).Id != 1 || c.Holder(64).Id != 0 || get(t, c, 1).Nodes != math.MaxUint64 {
		t.Fatal(c.Holder(63))
	}
}

func TestShould(t *testing.T) {
	c := three(t)
	ask(t, c, asked(1, 4, 0), 2)
	take(t, c, 4, 0, true)
	if want := c.Steps(); !slices.Equal(c.Should(), want) || len(want) != 4 || want[1] != (api.Step{At: 4, Free: 2}) {
		t.Fatal(c.Should(), want)
	}
	// What the profile states does not matter.
	c.Add(5, 7, -1)
	if slices.Equal(c.Should(), c.Steps()) || len(c.Should()) != 4 {
		t.Fatal(c.Should(), c.Steps())
	}
	// A node that is drained is not free, nor one that is drained while it is used.
	c = three(t)
	c.Drain(1)
	c.Drain(3)
	if want := []api.Step{{At: 0, Free: 1}, {At: 10, Free: -1}, {At: 30, Free: 2}}; !slices.Equal(c.Should(), want) {
		t.Fatal(c.Should())
	}
	// One that is used without a job is not, either.
	c = made(t, 4)
	c.Take(1)
	if want := []api.Step{{At: 0, Free: 3}}; !slices.Equal(c.Should(), want) {
		t.Fatal(c.Should())
	}
}

// The nodes of a job are not free before one unit after now, even if it should have ended.
func TestShouldOfALateJob(t *testing.T) {
	c := made(t, 4)
	ask(t, c, asked(2, 10, 0), 2)
	take(t, c, 1, 0, true)
	for _, x := range []struct {
		now  int64
		want []api.Step
	}{
		{9, []api.Step{{At: 9, Free: 2}, {At: 10, Free: 4}}},
		{10, []api.Step{{At: 10, Free: 2}, {At: 11, Free: 4}}},
		{25, []api.Step{{At: 25, Free: 2}, {At: 26, Free: 4}}},
	} {
		c.Advance(x.now)
		if !slices.Equal(c.Should(), x.want) {
			t.Fatal(x.now, c.Should())
		}
	}
	r := ask(t, c, at(api.ReqDrain, 0), 1)
	if r != (api.Reply{Id: 0, State: api.Draining}) {
		t.Fatal(r)
	}
	steps(t, c, 25, 4, 26, 3)
	ask(t, c, at(api.ReqResume, 0), 1)
	steps(t, c, 25, 4)
}

func TestFits(t *testing.T) {
	c := made(t, 4)
	ask(t, c, tick(100), 1)
	ask(t, c, asked(3, 10, 0), 2) // 1: runs from 100 to 110
	ask(t, c, asked(2, 10, 0), 2) // 2: has a plan at 120
	ask(t, c, asked(2, 10, 0), 2) // 3: has none
	ask(t, c, held(1, 1, 0), 1)   // 4
	ask(t, c, asked(1, 1, 0), 2)  // 5: cancelled
	ask(t, c, asked(4, 5, 0), 2)  // 6: has a plan at 200
	ask(t, c, asked(1, 10, 0), 2) // 7: has none
	take(t, c, 1, 100, true)
	take(t, c, 2, 120, true)
	take(t, c, 6, 200, true)
	ask(t, c, of(api.ReqCancel, 5), 3)
	for _, x := range []struct {
		id   int
		at   int64
		want bool
	}{
		{0, 150, false}, {-1, 150, false}, {8, 150, false}, {math.MinInt, 150, false}, {math.MaxInt, 150, false},
		{1, 150, false}, {4, 150, false}, {5, 150, false},
		{7, 99, false}, {7, 0, false}, {7, -1, false}, {7, math.MinInt64, false},
		{7, 100, true}, {7, 101, true}, {7, 190, true}, {7, 191, false}, {7, 204, false}, {7, 205, true},
		{7, 1<<40 - 1, true}, {7, 1 << 40, true}, {7, 1<<40 + 1, false}, {7, 1 << 60, false}, {7, math.MaxInt64, false},
		{3, 100, false}, {3, 109, false}, {3, 110, true}, {3, 120, true},
		{2, 109, false}, {2, 110, true}, {2, 119, true}, {2, 120, false}, {2, 121, false}, {2, 150, false},
		{6, 109, false}, {6, 110, true}, {6, 115, true}, {6, 116, false}, {6, 129, false}, {6, 130, true}, {6, 198, true}, {6, 199, true}, {6, 200, false},
	} {
		if got := c.Fits(api.Choice{Id: x.id, At: x.at}); got != x.want {
			t.Errorf("%+v: %v", x, got)
		}
		take(t, c.Twin(), x.id, x.at, x.want)
	}
}

// Its own plan stands in no job's way, even where nothing else is free; the plans of others do.
func TestFitsBesideItsOwnPlan(t *testing.T) {
	c := made(t, 4)
	ask(t, c, asked(4, 10, 0), 2)
	ask(t, c, asked(1, 10, 0), 2)
	take(t, c, 1, 20, true)
	for n := int64(19); n >= 11; n -= 2 {
		take(t, c, 1, n, true)
		steps(t, c, 0, 4, n, 0, n+10, 4)
	}
	take(t, c, 2, 1, true)
	for n := int64(0); n < 11; n++ {
		take(t, c.Twin(), 1, n, false)
	}
	take(t, c, 2, 0, true)
	take(t, c, 1, 10, true)
	steps(t, c, 0, 3, 10, 0, 20, 4)
}

func TestChoiceAtTheLastTime(t *testing.T) {
	c := made(t, 4)
	ask(t, c, asked(4, 1<<20, 0), 2)
	take(t, c, 1, 1<<40, true)
	steps(t, c, 0, 4, 1<<40, 0, 1<<40+1<<20, 4)
	if r := ask(t, c, tick(1<<40), 2); r != (api.Reply{Start: 1 << 40}) {
		t.Fatal(r)
	}
	if j := get(t, c, 1); j.State != api.Running || j.Start != 1<<40 || j.End != 1<<40+1<<20 {
		t.Fatal(j)
	}
	refuse(t, c, tick(1), api.ErrTime)
	ask(t, c, of(api.ReqComplete, 1), 3)
	steps(t, c, 1<<40, 4)
}
