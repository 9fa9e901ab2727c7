package audit_test

import (
	"math"
	"testing"

	"berthage/api"
	"berthage/audit"
	"berthage/core"
	"berthage/job"
	"berthage/node"
	"berthage/prof"
	"berthage/seq"
)

// asked returns a valid request for a job.
func asked(width int, limit int64, prio int) api.Request {
	return api.Request{Kind: api.ReqSubmit, User: 7, Width: width, Limit: limit, Prio: prio}
}

// held returns a valid request for a held job.
func held(width int, limit int64, prio int) api.Request {
	r := asked(width, limit, prio)
	r.Held = true
	return r
}

// of returns a request for a job, or one without fields.
func of(kind, id int) api.Request {
	return api.Request{Kind: kind, Id: id}
}

// at returns a request for a node.
func at(kind, n int) api.Request {
	return api.Request{Kind: kind, Node: n}
}

// tick returns a ReqTick.
func tick(by int64) api.Request {
	return api.Request{Kind: api.ReqTick, By: by}
}

// made returns a core of n nodes on which these requests were performed, none of which may fail.
func made(t *testing.T, n int, l ...api.Request) *core.Core {
	t.Helper()
	c, e := core.New(n)
	if e != api.OK {
		t.Fatalf("New(%d): %v", n, e)
	}
	ask(t, c, l...)
	return c
}

// ask performs requests that must not fail.
func ask(t *testing.T, c *core.Core, l ...api.Request) {
	t.Helper()
	for i, r := range seq.Over(c).All(l...) {
		if r.Err != api.OK {
			t.Fatalf("%+v: %+v", l[i], r)
		}
	}
}

// take performs a choice that must take effect.
func take(t *testing.T, c *core.Core, id int, at int64) {
	t.Helper()
	if !seq.Over(c).Commit(api.Choice{Id: id, At: at}) {
		t.Fatalf("job %d at %d does not take effect", id, at)
	}
}

// must fails the test if what is done to the parts of a core has failed.
func must(t *testing.T, l ...api.Errno) {
	t.Helper()
	for i, e := range l {
		if e != api.OK {
			t.Fatalf("change %d: %v", i, e)
		}
	}
}

// check fails the test if a core does not have these violations.
func check(t *testing.T, c *core.Core, want audit.Told) {
	t.Helper()
	if x := audit.Check(c); x != want || x.OK() != (want == audit.Told{}) {
		t.Fatalf("%+v, %v; want %+v", x, x.OK(), want)
	}
}

// same fails the test if two cores are not the same, or are the same, in either order.
func same(t *testing.T, a, b *core.Core, want bool) {
	t.Helper()
	if audit.Same(a, b) != want || audit.Same(b, a) != want {
		t.Fatalf("same: %v; want %v", audit.Same(a, b), want)
	}
	if !audit.Same(a, a) || !audit.Same(b, b) {
		t.Fatal("not the same as itself")
	}
}

// counts fails the test if as many nodes are not taken, or not there, at a time.
func counts(t *testing.T, c *core.Core, at int64, taken, room int) {
	t.Helper()
	if x, y := audit.Taken(c, at), audit.Room(c, at); x != taken || y != room {
		t.Errorf("at %d: taken %d, room %d; want %d, %d", at, x, y, taken, room)
	}
}

// four returns a core of 4 nodes at the time 5: job 1 runs on nodes 0 and 1 from 5 to 15, job 2 of 3 nodes has a plan
// from 15 to 25, job 3 is held, and job 4 is pending without a plan.
func four(t *testing.T) *core.Core {
	t.Helper()
	c := made(t, 4, tick(5), asked(2, 10, 0), asked(3, 10, 0), held(1, 10, 0), asked(4, 1, 0))
	take(t, c, 1, 5)
	take(t, c, 2, 15)
	check(t, c, audit.Told{})
	return c
}

// nones returns cores that no call returned.
func nones() []*core.Core {
	nodes, _ := node.New(4)
	profile, _ := prof.New(4)
	jobs := job.New()
	jobs.Submit(asked(2, 10, 0))
	jobs.Begin(1, 3, 0b10000001)
	return []*core.Core{nil, {}, {Jobs: jobs}, {Nodes: nodes}, {Profile: profile}, {Jobs: jobs, Nodes: nodes, Profile: profile}}
}

// Promise 22.1: Check, OK.

func TestOK(t *testing.T) {
	if !(audit.Told{}).OK() {
		t.Error("nothing is a violation")
	}
	for _, x := range []audit.Told{
		{Nodes: true}, {Used: true}, {Profile: true}, {Width: true}, {Times: true}, {Room: true},
		{Nodes: true, Used: true, Profile: true, Width: true, Times: true, Room: true},
	} {
		if x.OK() {
			t.Errorf("%+v is OK", x)
		}
	}
}

func TestCheckOfNone(t *testing.T) {
	for _, c := range nones() {
		check(t, c, audit.Told{})
	}
}

func TestCheckOfGoodCores(t *testing.T) {
	for n := 1; n <= 64; n++ {
		check(t, made(t, n), audit.Told{})
		c := made(t, n, asked(n, 10, 0), asked(1, 5, 0))
		check(t, c, audit.Told{})
		take(t, c, 1, 0)
		check(t, c, audit.Told{})
		take(t, c, 2, 10)
		check(t, c, audit.Told{})
		ask(t, c, tick(10))
		check(t, c, audit.Told{})
		ask(t, c, tick(1), at(api.ReqDrain, n-1), tick(4), of(api.ReqStop, 0))
		check(t, c, audit.Told{})
	}
}

// At the greatest time jobs may still begin, and end beyond it.
func TestCheckAtTheGreatestTime(t *testing.T) {
	c := made(t, 2, tick(api.MaxTime-1), asked(1, api.MaxLimit, 0), asked(2, 1, 0), asked(1, api.MaxLimit, 0))
	take(t, c, 1, api.MaxTime-1)
	take(t, c, 3, api.MaxTime)
	check(t, c, audit.Told{})
	counts(t, c, api.MaxTime+api.MaxLimit-2, 2, 2)
	counts(t, c, api.MaxTime+api.MaxLimit-1, 1, 2)
	counts(t, c, api.MaxTime+api.MaxLimit, 0, 2)
	ask(t, c, tick(1))
	check(t, c, audit.Told{})
}

// A core is checked, and not changed.
func TestCheckChangesNothing(t *testing.T) {
	c := four(t)
	must(t, c.Begin(4, 9, 0b1001), c.Drain(0), c.Drain(3))
	before, version := c.Twin(), c.Version()
	x := audit.Check(c)
	audit.Taken(c, 7)
	audit.Room(c, 7)
	if !audit.Same(c, before) || c.Version() != version || audit.Check(c) != x || x.OK() {
		t.Fatal("changed")
	}
}

func TestNodesInCommon(t *testing.T) {
	c := made(t, 4, asked(2, 10, 0), asked(2, 10, 0), asked(2, 10, 0))
	take(t, c, 1, 0)
	take(t, c, 2, 0)
	check(t, c, audit.Told{})
	must(t, c.Begin(3, 0, 0b0110))
	if x := audit.Check(c); !x.Nodes || x.Used || x.Width || x.Times || x.Room {
		t.Fatalf("%+v", x)
	}
	// Jobs that have ended may have had the nodes of others.
	must(t, c.Finish(1, api.Completed, 0), c.Finish(2, api.Cancelled, 0))
	if x := audit.Check(c); x.Nodes || !x.Used {
		t.Fatalf("%+v", x)
	}
}

func TestNodesThatDoNotExist(t *testing.T) {
	for _, nodes := range []uint64{1 << 4, 1 << 5, 1 << 62, 1 << 63} {
		c := made(t, 4, asked(1, 10, 0))
		must(t, c.Begin(1, 0, nodes))
		check(t, c, audit.Told{Nodes: true, Used: true})
		c = made(t, 4, asked(2, 10, 0))
		must(t, c.Begin(1, 0, 1|nodes))
		if x := audit.Check(c); !x.Nodes || !x.Used || x.Width {
			t.Fatalf("%+v", x)
		}
		c = made(t, 64, asked(1, 10, 0))
		must(t, c.Begin(1, 0, nodes))
		if x := audit.Check(c); x.Nodes || !x.Used {
			t.Fatalf("%+v", x)
		}
	}
}

func TestWidth(t *testing.T) {
	for nodes, wrong := range []bool{true, true, true, false, true, false, false, true} {
		c := made(t, 3, asked(2, 10, 0))
		must(t, c.Begin(1, 0, uint64(nodes)))
		if x := audit.Check(c); x.Width != wrong || x.Nodes || x.Used != (nodes != 0) {
			t.Errorf("nodes %b: %+v", nodes, x)
		}
	}
	// All 64 nodes are as many as 64.
	c := made(t, 64, asked(64, 10, 0), asked(64, 10, 0))
	take(t, c, 1, 0)
	check(t, c, audit.Told{})
	must(t, c.Begin(2, 0, math.MaxUint64>>1))
	if x := audit.Check(c); !x.Width || !x.Nodes || x.Used {
		t.Fatalf("%+v", x)
	}
	// A job that does not run needs none.
	must(t, c.Finish(1, api.Completed, 0), c.Finish(2, api.Completed, 0))
	if x := audit.Check(c); x.Width || x.Nodes || !x.Used {
		t.Fatalf("%+v", x)
	}
}

func TestUsed(t *testing.T) {
	// Nodes are used that no job has.
	c := four(t)
	c.Take(1)
	check(t, c, audit.Told{Used: true, Profile: true})
	// Also if they are to be drained.
	c = made(t, 1)
	c.Take(1)
	must(t, c.Drain(0), c.Add(0, api.Forever, -1))
	check(t, c, audit.Told{Used: true})
	// A running job has nodes that are not used.
	c = four(t)
	c.Give(0b10)
	if x := audit.Check(c); !x.Used || x.Nodes || x.Width || x.Times {
		t.Fatalf("%+v", x)
	}
	// As many nodes are used, but other ones; the profile is as it must be, as the job's own nodes are not Busy.
	c = made(t, 4, asked(2, 10, 0))
	must(t, c.Begin(1, 0, 0b0011), c.Claim(0b1100), c.Add(0, api.Forever, -2))
	check(t, c, audit.Told{Used: true})
}

// The example of 22.1.
func TestFinishedWithoutGivingBack(t *testing.T) {
	c := four(t)
	must(t, c.Finish(1, api.Completed, 5))
	if x := audit.Check(c); !x.Used || !x.Profile || x.Nodes || x.Width || x.Times {
		t.Fatalf("%+v", x)
	}
	c = made(t, 4, asked(2, 10, 0))
	take(t, c, 1, 0)
	must(t, c.Finish(1, api.TimedOut, 0))
	check(t, c, audit.Told{Used: true, Profile: true})
}

func TestTimesOfPending(t *testing.T) {
	for plan, wrong := range map[int64]bool{-1: false, 0: true, 4: true, 5: true, 6: false, 15: false, api.MaxTime: false} {
		c := four(t)
		must(t, c.Jobs.Plan(4, plan))
		if x := audit.Check(c); x.Times != wrong {
			t.Errorf("a plan at %d: %+v", plan, x)
		}
	}
	// A plan that the time has reached without its job beginning.
	c := four(t)
	must(t, c.Profile.Advance(14))
	if x := audit.Check(c); x.Times {
		t.Fatalf("%+v", x)
	}
	c = made(t, 4, asked(2, 10, 0))
	take(t, c, 1, 7)
	must(t, c.Profile.Advance(6))
	check(t, c, audit.Told{})
	must(t, c.Profile.Advance(7))
	check(t, c, audit.Told{Times: true})
	must(t, c.Profile.Advance(8))
	check(t, c, audit.Told{Times: true})
}

func TestTimesOfRunning(t *testing.T) {
	for start, wrong := range map[int64]bool{0: false, 4: false, 5: false, 6: true, 100: true, api.MaxTime: true} {
		c := made(t, 4, tick(5), asked(2, 10, 0))
		must(t, c.Begin(1, start, 0b0011), c.Claim(0b0011), c.Add(0, start+10, -2))
		check(t, c, audit.Told{Times: wrong})
	}
	// Its End comes without its end.
	c := made(t, 4, asked(2, 10, 0))
	take(t, c, 1, 0)
	must(t, c.Profile.Advance(9))
	check(t, c, audit.Told{})
	must(t, c.Profile.Advance(10))
	// Its nodes become free no earlier than at 11.
	check(t, c, audit.Told{Times: true, Profile: true})
	must(t, c.Add(10, 11, -2))
	check(t, c, audit.Told{Times: true})
}

func TestTimesOfEnded(t *testing.T) {
	for _, state := range []int{api.Completed, api.Cancelled, api.TimedOut} {
		for end, wrong := range map[int64]bool{0: true, 4: true, 5: false, 7: false, 9: false, 10: true, 15: true, api.MaxTime: true} {
			c := four(t)
			ask(t, c, tick(4))
			must(t, c.Finish(1, state, end), c.Add(9, 15, 2))
			c.Give(0b11)
			check(t, c, audit.Told{Times: wrong})
		}
	}
	// A job that never ran has no times.
	c := four(t)
	ask(t, c, of(api.ReqCancel, 2), of(api.ReqCancel, 3))
	check(t, c, audit.Told{})
	must(t, c.Finish(4, api.Cancelled, api.MaxTime))
	check(t, c, audit.Told{})
}

func TestProfile(t *testing.T) {
	for i, change := range []func(c *core.Core) api.Errno{
		func(c *core.Core) api.Errno { return c.Add(5, 6, 1) },
		func(c *core.Core) api.Errno { return c.Add(5, 6, -1) },
		func(c *core.Core) api.Errno { return c.Add(25, api.Forever, -1) },
		func(c *core.Core) api.Errno { return c.Add(1<<50, api.Forever, 1) },
		func(c *core.Core) api.Errno { return c.Reserve(api.Span{From: 5, To: 15, Width: 2}) },
		func(c *core.Core) api.Errno { return c.Release(api.Span{From: 15, To: 25, Width: 3}) },
		func(c *core.Core) api.Errno { return c.Jobs.Plan(2, api.None) },
		func(c *core.Core) api.Errno { return c.Jobs.Plan(2, 16) },
		func(c *core.Core) api.Errno { return c.Jobs.Plan(4, 25) },
		func(c *core.Core) api.Errno { return c.Hold(2) },
		func(c *core.Core) api.Errno { return c.Drain(3) },
		func(c *core.Core) api.Errno { return c.Drain(1) },
	} {
		c := four(t)
		must(t, change(c))
		if x := audit.Check(c); x != (audit.Told{Profile: true}) {
			t.Errorf("change %d: %+v", i, x)
		}
	}
	// What is added and then taken away again is as before.
	c := four(t)
	must(t, c.Add(7, 9, -2), c.Add(7, 9, 2), c.Jobs.Free(3), c.Hold(4))
	check(t, c, audit.Told{})
}

func TestRoomViolated(t *testing.T) {
	// From 15 on 4 nodes are there, and job 2 has 3 of them.
	for plan, wrong := range map[int64]bool{14: true, 15: true, 24: true, 25: false} {
		c := four(t)
		must(t, c.Jobs.Plan(4, plan))
		check(t, c, audit.Told{Profile: true, Room: wrong})
	}
	// A plan that fits exactly leaves none.
	c := made(t, 4, asked(4, 10, 0))
	take(t, c, 1, 3)
	check(t, c, audit.Told{})
	// A node that is drained is one too few.
	must(t, c.Drain(0))
	check(t, c, audit.Told{Profile: true, Room: true})
	must(t, c.Resume(0))
	check(t, c, audit.Told{})
}

// All violations at once.
func TestCheckOfTheWorst(t *testing.T) {
	c := four(t)
	must(t, c.Begin(4, 5, 0b11), c.Jobs.Plan(2, 2))
	c.Take(2)
	check(t, c, audit.Told{Nodes: true, Used: true, Profile: true, Width: true, Times: true, Room: true})
}

// A core whose parts were taken away from it is checked without a panic.
func TestCheckWithoutParts(t *testing.T) {
	for i := range 7 {
		c := four(t)
		if i&1 == 0 {
			c.Jobs = nil
		}
		if i&2 == 0 {
			c.Nodes = nil
		}
		if i&4 == 0 {
			c.Profile = nil
		}
		if audit.Check(c).OK() {
			t.Errorf("parts %b: OK", i)
		}
		audit.Taken(c, 7)
		audit.Room(c, 7)
		same(t, c, four(t), false)
	}
}

// Promise 22.1: Same.

func TestSame(t *testing.T) {
	same(t, four(t), four(t), true)
	same(t, four(t), four(t).Twin(), true)
	for i, change := range []func(t *testing.T, c *core.Core){
		func(t *testing.T, c *core.Core) { ask(t, c, asked(1, 1, 0)) },
		func(t *testing.T, c *core.Core) { ask(t, c, of(api.ReqStop, 0)) },
		func(t *testing.T, c *core.Core) { ask(t, c, of(api.ReqHold, 4)) },
		func(t *testing.T, c *core.Core) { ask(t, c, tick(1)) },
		func(t *testing.T, c *core.Core) { ask(t, c, at(api.ReqDrain, 3)) },
		func(t *testing.T, c *core.Core) { take(t, c, 4, 25) },
		func(t *testing.T, c *core.Core) { must(t, c.Jobs.Plan(4, 30)) },
		func(t *testing.T, c *core.Core) { must(t, c.Add(5, 6, 1)) },
		func(t *testing.T, c *core.Core) { must(t, c.Add(1<<50, api.Forever, 1)) },
		func(t *testing.T, c *core.Core) { must(t, c.Drain(0)) },
		func(t *testing.T, c *core.Core) { must(t, c.Drain(3)) },
		func(t *testing.T, c *core.Core) { c.Take(1) },
		func(t *testing.T, c *core.Core) { c.Give(0b1) },
	} {
		a, b := four(t), four(t)
		change(t, a)
		if audit.Same(a, b) || audit.Same(b, a) {
			t.Errorf("change %d: the same", i)
		}
		change(t, b)
		if !audit.Same(a, b) || !audit.Same(b, a) {
			t.Errorf("change %d: not the same", i)
		}
	}
}

// Every field of a job counts.
func TestSameJobs(t *testing.T) {
	first := api.Request{Kind: api.ReqSubmit, User: 1, Width: 1, Limit: 1, Prio: 1}
	for _, r := range []api.Request{
		{Kind: api.ReqSubmit, User: 2, Width: 1, Limit: 1, Prio: 1},
		{Kind: api.ReqSubmit, User: 1, Width: 2, Limit: 1, Prio: 1},
		{Kind: api.ReqSubmit, User: 1, Width: 1, Limit: 2, Prio: 1},
		{Kind: api.ReqSubmit, User: 1, Width: 1, Limit: 1, Prio: 2},
		{Kind: api.ReqSubmit, User: 1, Width: 1, Limit: 1, Prio: 1, Held: true},
	} {
		same(t, made(t, 4, first), made(t, 4, r), false)
		same(t, made(t, 4, r), made(t, 4, r), true)
	}
	begun := func(at int64, nodes uint64, end int64) *core.Core {
		c := made(t, 4, first)
		must(t, c.Begin(1, at, nodes), c.Finish(1, api.Completed, end))
		return c
	}
	same(t, begun(1, 1, 5), begun(1, 1, 5), true)
	same(t, begun(1, 1, 5), begun(2, 1, 5), false)
	same(t, begun(1, 1, 5), begun(1, 2, 5), false)
	same(t, begun(1, 1, 5), begun(1, 1, 6), false)
}

func TestSameSizes(t *testing.T) {
	for a := 1; a <= 64; a++ {
		for b := 1; b <= 64; b++ {
			x, y := made(t, a), made(t, b)
			// The profiles are the same even if the sizes are not.
			must(t, x.Add(0, api.Forever, -a), y.Add(0, api.Forever, -b))
			if audit.Same(x, y) != (a == b) {
				t.Fatalf("%d and %d nodes: %v", a, b, !(a == b))
			}
		}
	}
}

// How a core has become what it is does not count, nor how often its profile was changed.
func TestSameByAnotherWay(t *testing.T) {
	a, b := made(t, 4), made(t, 4)
	ask(t, a, tick(3), tick(4), at(api.ReqDrain, 2), at(api.ReqResume, 2))
	ask(t, b, tick(7))
	if a.Version() == b.Version() {
		t.Fatal("the versions do not differ")
	}
	same(t, a, b, true)
	ask(t, a, of(api.ReqStop, 0))
	same(t, a, b, false)
	ask(t, b, of(api.ReqStop, 0))
	same(t, a, b, true)
}

func TestSameOfNone(t *testing.T) {
	closed := made(t, 4, of(api.ReqStop, 0))
	for _, a := range nones() {
		for _, b := range nones() {
			same(t, a, b, true)
		}
		same(t, a, made(t, 4), false)
		same(t, a, four(t), false)
		same(t, a, closed, false)
	}
}

// Promise 22.2: Taken, Room.

func TestCountsOfNone(t *testing.T) {
	for _, c := range nones() {
		for _, at := range []int64{math.MinInt64, -1, 0, 1, 3, 5, 12, api.Forever, math.MaxInt64} {
			counts(t, c, at, 0, 0)
		}
	}
}

func TestCountsOfEmptyCores(t *testing.T) {
	for n := 1; n <= 64; n++ {
		for _, at := range []int64{math.MinInt64, -1, 0, 1, api.MaxTime, api.Forever, math.MaxInt64} {
			counts(t, made(t, n), at, 0, n)
		}
	}
}

// The example of 22.2.
func TestCountsOfTheExample(t *testing.T) {
	c := made(t, 4, asked(3, 10, 0))
	take(t, c, 1, 0)
	ask(t, c, at(api.ReqDrain, 3))
	counts(t, c, 5, 3, 3)
}

func TestTaken(t *testing.T) {
	c := four(t)
	for at, taken := range map[int64]int{
		math.MinInt64: 0, -1: 0, 0: 0, 4: 0, 5: 2, 6: 2, 14: 2, 15: 3, 24: 3, 25: 0, api.MaxTime: 0, math.MaxInt64: 0,
	} {
		counts(t, c, at, taken, 4)
	}
	// Those at the same time are added.
	ask(t, c, asked(2, 10, 0), asked(1, 5, 0))
	take(t, c, 5, 5)
	take(t, c, 6, 15)
	for at, taken := range map[int64]int{4: 0, 5: 4, 14: 4, 15: 4, 19: 4, 20: 3, 24: 3, 25: 0} {
		counts(t, c, at, taken, 4)
	}
	// Jobs that are held or have ended take nothing, whatever they had.
	ask(t, c, tick(2), of(api.ReqComplete, 1), of(api.ReqHold, 2))
	for at, taken := range map[int64]int{5: 2, 6: 2, 7: 2, 14: 2, 15: 1, 19: 1, 20: 0} {
		counts(t, c, at, taken, 4)
	}
}

// What is taken is told by the Width of a job, not by its nodes.
func TestTakenOfWrongNodes(t *testing.T) {
	c := made(t, 4, asked(3, 10, 0), asked(4, 10, 0), asked(4, 10, 0))
	must(t, c.Begin(1, 2, 0b1), c.Begin(2, 8, 0b1), c.Jobs.Plan(3, 11))
	for at, taken := range map[int64]int{1: 0, 2: 3, 7: 3, 8: 7, 10: 7, 11: 11, 12: 8, 17: 8, 18: 4, 20: 4, 21: 0} {
		counts(t, c, at, taken, 4)
	}
}

func TestRoom(t *testing.T) {
	c := four(t)
	ask(t, c, at(api.ReqDrain, 0), at(api.ReqDrain, 3))
	// Node 0 is there until job 1 ends; node 3 is not any more.
	for at, room := range map[int64]int{math.MinInt64: 3, -1: 3, 0: 3, 5: 3, 14: 3, 15: 2, 16: 2, math.MaxInt64: 2} {
		if n := audit.Room(c, at); n != room {
			t.Errorf("at %d: %d; want %d", at, n, room)
		}
	}
	ask(t, c, at(api.ReqResume, 0))
	for _, at := range []int64{0, 5, 14, 15, api.Forever} {
		counts(t, c, at, audit.Taken(c, at), 3)
	}
	ask(t, c, at(api.ReqDrain, 1), of(api.ReqCancel, 1))
	for _, at := range []int64{0, 5, 14, 15, api.Forever} {
		counts(t, c, at, 0, 2)
	}
}

// A node that is Draining counts as long as a running job has it, and only then.
func TestRoomOfWrongNodes(t *testing.T) {
	c := made(t, 4, tick(5), asked(1, 5, 0), asked(1, 10, 0))
	c.Take(2)
	must(t, c.Drain(0), c.Drain(1))
	for _, at := range []int64{math.MinInt64, -1, 0, 5, math.MaxInt64} {
		counts(t, c, at, 0, 2)
	}
	// Both jobs have node 0, so that it counts up to the later End.
	must(t, c.Begin(1, 5, 0b1), c.Begin(2, 5, 0b1))
	counts(t, c, 9, 2, 3)
	counts(t, c, 10, 1, 3)
	counts(t, c, 14, 1, 3)
	counts(t, c, 15, 0, 2)
	// The nodes of a job that has ended are not its own any more.
	must(t, c.Finish(1, api.Completed, 100), c.Finish(2, api.Completed, 100))
	counts(t, c, 9, 0, 2)
	// A node that does not exist is not there, nor is one that is Drained already.
	c = made(t, 2, asked(2, 10, 0))
	must(t, c.Begin(1, 0, 0b111), c.Drain(1))
	counts(t, c, 5, 2, 1)
}
