package fair_test

import (
	"math"
	"slices"
	"testing"

	"berthage/api"
	"berthage/core"
	"berthage/ctrl"
	"berthage/fair"
	"berthage/hist"
	"berthage/req"
	"berthage/rule"
)

// outside is an owner of locks that is no task.
const outside = 99999

// made returns a new controller.
func made(t *testing.T, n int) *ctrl.Ctrl {
	t.Helper()
	c, e := ctrl.New(n)
	if e != api.OK {
		t.Fatalf("New(%d): %v", n, e)
	}
	return c
}

// call creates a task for each of these requests.
func call(t *testing.T, c *ctrl.Ctrl, l ...api.Request) {
	t.Helper()
	for _, r := range l {
		b, e := req.Bytes(r)
		if e != api.OK {
			t.Fatalf("%+v: %v", r, e)
		}
		if _, e = c.Call(b); e != api.OK {
			t.Fatalf("%+v: %v", r, e)
		}
	}
}

// sweep creates a task that is a pass.
func sweep(t *testing.T, c *ctrl.Ctrl, some, depth int) {
	t.Helper()
	if _, e := c.Pass(some, depth); e != api.OK {
		t.Fatalf("Pass(%d, %d): %v", some, depth, e)
	}
}

// alone drives a controller whose only task must end, and returns the number of its steps.
func alone(t *testing.T, c *ctrl.Ctrl) int {
	t.Helper()
	x, e := fair.Drive(c, math.MaxInt, 1)
	if e != api.OK || !x.Quiet || x.Worst != 0 {
		t.Fatalf("%+v, %v", x, e)
	}
	return x.Steps
}

// ask performs requests one after the other, none of which may fail.
func ask(t *testing.T, c *ctrl.Ctrl, l ...api.Request) {
	t.Helper()
	for _, r := range l {
		call(t, c, r)
		alone(t, c)
		if told, ok := c.Told(c.Tasks()); !ok || told.Err != api.OK {
			t.Fatalf("%+v: %+v, %v", r, told, ok)
		}
	}
}

// drive drives a controller, and fails the test if something else comes of it.
func drive(t *testing.T, c *ctrl.Ctrl, want fair.Told, most, bound int, wishes ...int) {
	t.Helper()
	if x, e := fair.Drive(c, most, bound, wishes...); e != api.OK || x != want {
		t.Fatalf("most %d, bound %d, wishes %v: %+v, %v; want %+v", most, bound, wishes, x, e, want)
	}
	if (c.Busy() == 0) != want.Quiet {
		t.Fatalf("%d tasks are not over", c.Busy())
	}
}

// stuck drives a controller that must end up without a ready task.
func stuck(t *testing.T, c *ctrl.Ctrl, want fair.Told, most, bound int, wishes ...int) {
	t.Helper()
	if x, e := fair.Drive(c, most, bound, wishes...); e != api.ErrLock || x != want {
		t.Fatalf("most %d, bound %d, wishes %v: %+v, %v; want %+v", most, bound, wishes, x, e, want)
	}
}

// of returns a request for a job, or one without fields.
func of(kind, id int) api.Request {
	return api.Request{Kind: kind, Id: id}
}

// asked returns a valid request for a job.
func asked(width int, limit int64, prio int) api.Request {
	return api.Request{Kind: api.ReqSubmit, User: 7, Width: width, Limit: limit, Prio: prio}
}

// at returns a request for a node.
func at(kind, n int) api.Request {
	return api.Request{Kind: kind, Node: n}
}

// tick returns a ReqTick.
func tick(by int64) api.Request {
	return api.Request{Kind: api.ReqTick, By: by}
}

// stops returns a controller with so many tasks that are each a ReqStop: always ready, two steps, an event at each of them.
func stops(t *testing.T, n int) *ctrl.Ctrl {
	t.Helper()
	c := made(t, 4)
	for range n {
		call(t, c, of(api.ReqStop, 0))
	}
	return c
}

// doers returns whose step was next, step by step, if an event was noted at each of them.
func doers(t *testing.T, c *ctrl.Ctrl) []int {
	t.Helper()
	var l []int
	for _, e := range c.Events() {
		if e.Kind == api.EvCall {
			continue
		}
		if l = append(l, e.Task); e.Step != len(l) {
			t.Fatalf("%+v in step %d", e, len(l))
		}
	}
	return l
}

// nones returns controllers that New did not return.
func nones(t *testing.T) []*ctrl.Ctrl {
	t.Helper()
	k, e := core.New(4)
	if e != api.OK {
		t.Fatal(e)
	}
	return []*ctrl.Ctrl{nil, {}, {Core: k}, {Log: &hist.Log{}}, {Core: k, Log: &hist.Log{}}}
}

// Promise 23.1: how many steps, and whether all tasks are over.

// The examples of 23.1.
func TestExamples(t *testing.T) {
	clock := of(api.ReqClock, 0)
	for _, bound := range []int{1, 4, 100} {
		c := made(t, 4)
		call(t, c, clock, clock, clock)
		x, e := fair.Drive(c, 1000, bound)
		if e != api.OK || x.Steps != 12 || !x.Quiet || c.Busy() != 0 || c.Step() != 12 {
			t.Errorf("bound %d: %+v, %v", bound, x, e)
		}
	}
	c := made(t, 4)
	sweep(t, c, 1, 9)
	drive(t, c, fair.Told{Steps: 3}, 3, 100)
	drive(t, c, fair.Told{Steps: 3}, 3, 100)
	drive(t, c, fair.Told{Steps: 1, Quiet: true}, 3, 100)
	drive(t, c, fair.Told{Quiet: true}, 3, 100)
}

func TestMost(t *testing.T) {
	for _, most := range []int{math.MinInt, -1, 0, 1, 2, 11, 12, 13, 1000, math.MaxInt} {
		c := made(t, 4)
		call(t, c, of(api.ReqClock, 0), of(api.ReqLoad, 0), of(api.ReqInfo, 0))
		n := min(max(most, 0), 12)
		x, e := fair.Drive(c, most, 3)
		if e != api.OK || x.Steps != n || x.Quiet != (n == 12) || c.Step() != n || (c.Busy() == 0) != (n == 12) {
			t.Errorf("most %d: %+v, %v; %d tasks are not over", most, x, e, c.Busy())
		}
	}
}

// Tasks that are over already take no steps, however they ended.
func TestNothingToDo(t *testing.T) {
	fresh, bad, done := made(t, 1), made(t, 1), made(t, 64)
	if _, e := bad.Call([]byte{1, 2, 3}); e != api.OK {
		t.Fatal(e)
	}
	ask(t, done, of(api.ReqStop, 0))
	for i, c := range []*ctrl.Ctrl{fresh, bad, done} {
		for _, most := range []int{math.MinInt, -1, 0, 1, math.MaxInt} {
			for _, bound := range []int{1, 2, math.MaxInt} {
				step, n := c.Step(), len(c.Events())
				drive(t, c, fair.Told{Quiet: true}, most, bound)
				drive(t, c, fair.Told{Quiet: true}, most, bound, 1, 2, 3)
				if c.Step() != step || len(c.Events()) != n {
					t.Errorf("%d: step %d, %v", i, c.Step(), c.Events())
				}
			}
		}
	}
}

// A lock that is held does not matter when all tasks are over.
func TestNothingToDoUnderLocks(t *testing.T) {
	c := made(t, 4)
	for k := range rule.Count {
		if e := c.Locks().Try(k, outside); e != api.OK {
			t.Fatal(e)
		}
	}
	drive(t, c, fair.Told{Quiet: true}, 5, 5)
	call(t, c, of(api.ReqStop, 0))
	drive(t, c, fair.Told{Steps: 2, Quiet: true}, 5, 5)
}

// Promise 23.1: whose step is next.

func TestDoers(t *testing.T) {
	for _, x := range []struct {
		tasks, bound int
		wishes       []int
		doers        []int
		worst        int
	}{
		// Without wishes it goes around, with fewer tasks in the end.
		{1, 100, nil, []int{1, 1}, 0},
		{2, 100, nil, []int{1, 2, 1, 2}, 1},
		{3, 100, nil, []int{1, 2, 3, 1, 2, 3}, 2},
		{4, 100, nil, []int{1, 2, 3, 4, 1, 4, 2, 3}, 4},
		// Wishes, around and around; an index is from 0 on.
		{3, 100, []int{0}, []int{1, 1, 2, 2, 3, 3}, 4},
		{3, 100, []int{-1}, []int{3, 3, 2, 2, 1, 1}, 4},
		{3, 100, []int{1}, []int{2, 2, 3, 3, 1, 1}, 4},
		{3, 100, []int{3}, []int{1, 1, 3, 3, 2, 2}, 4},
		{3, 100, []int{-3}, []int{1, 1, 3, 3, 2, 2}, 4},
		{3, 100, []int{2, 0}, []int{3, 1, 3, 1, 2, 2}, 4},
		{3, 100, []int{2, 0, 1, 1, 1, 1, 0, 0}, []int{3, 1, 2, 2, 3, 1}, 3},
		{3, 100, []int{math.MaxInt, math.MinInt}, []int{2, 2, 3, 1, 3, 1}, 3},
		{3, math.MaxInt, []int{0, 0}, []int{1, 1, 2, 2, 3, 3}, 4},
		// The bound: who has waited longest, and of several the lowest.
		{3, 1, []int{2}, []int{1, 2, 3, 1, 2, 3}, 2},
		{3, 3, []int{2}, []int{1, 2, 3, 1, 2, 3}, 2},
		{3, 4, []int{0}, []int{1, 2, 3, 1, 2, 3}, 2},
		{3, 4, []int{2}, []int{3, 1, 2, 3, 1, 2}, 2},
		{3, 5, []int{0}, []int{1, 1, 2, 3, 2, 3}, 3},
		{3, 5, []int{2}, []int{3, 3, 1, 2, 1, 2}, 3},
		{3, 6, []int{0}, []int{1, 1, 2, 2, 3, 3}, 4},
		{2, 3, []int{0}, []int{1, 2, 1, 2}, 1},
		{2, 4, []int{1}, []int{2, 2, 1, 1}, 2},
	} {
		c := stops(t, x.tasks)
		drive(t, c, fair.Told{Steps: 2 * x.tasks, Quiet: true, Worst: x.worst}, math.MaxInt, x.bound, x.wishes...)
		if l := doers(t, c); !slices.Equal(l, x.doers) {
			t.Errorf("%+v: %v", x, l)
		}
	}
}

// Step n is counted from the beginning of a call, and so is the index of a wish.
func TestWishesAnew(t *testing.T) {
	c := stops(t, 4)
	drive(t, c, fair.Told{Steps: 3, Worst: 1}, 3, 100, 0, 3, 0, 2)
	drive(t, c, fair.Told{Steps: 2, Worst: 1}, 2, 100)
	drive(t, c, fair.Told{Steps: 2, Worst: 1}, 2, 100, 1, 0, 1)
	drive(t, c, fair.Told{Steps: 1, Quiet: true}, 2, 100, 1)
	if l := doers(t, c); !slices.Equal(l, []int{1, 4, 1, 2, 3, 3, 2, 4}) {
		t.Error(l)
	}
}

// What a task has waited before Drive does not count, neither for Worst nor for the bound.
func TestWaitingAnew(t *testing.T) {
	c := stops(t, 3)
	drive(t, c, fair.Told{Steps: 2}, 2, 100, 0)
	drive(t, c, fair.Told{Steps: 1}, 1, 3, 1)
	drive(t, c, fair.Told{Steps: 1}, 1, 4, 1)
	drive(t, c, fair.Told{Steps: 2, Quiet: true}, 2, 4)
	if l := doers(t, c); !slices.Equal(l, []int{1, 1, 3, 3, 2, 2}) {
		t.Error(l)
	}
}

// Steps of others count only while a task is ready, but what it had waited before is kept.
func TestWaitingOnlyWhileReady(t *testing.T) {
	load := func() *ctrl.Ctrl {
		c := made(t, 4)
		call(t, c, of(api.ReqClock, 0), of(api.ReqClock, 0), of(api.ReqStop, 0))
		return c
	}
	// Task 2 has waited for tasks 3 and 1 when task 1 has the lock, and goes on when it is free again.
	drive(t, load(), fair.Told{Steps: 5, Worst: 2}, 5, 100, 2, 0, 0, 0, 1)
	drive(t, load(), fair.Told{Steps: 4, Worst: 1}, 4, 100, 2, 0, 0, 0, 1)
	// Task 3 has waited for three steps of task 1 and one of task 2 by then.
	drive(t, load(), fair.Told{Steps: 6, Worst: 4}, 6, 100, 2, 0, 0, 0, 1, 2)
	// A bound of 4 makes task 3 go on in step 3, when it has waited for two steps beside task 1 alone.
	c := load()
	drive(t, c, fair.Told{Steps: 4, Worst: 2}, 4, 4, 2, 0, 0, 0)
	if told, ok := c.Told(3); !ok || told != (api.Reply{}) || c.Locks().Owner(rule.Prof) != 1 {
		t.Error(told, ok, c.Locks().Owner(rule.Prof))
	}
}

// A task that begins to wait for a lock has waited while it was ready; its own step ends that.
func TestWaitingEndsWithAStep(t *testing.T) {
	c := made(t, 4)
	call(t, c, of(api.ReqInfo, 0), of(api.ReqLoad, 0))
	drive(t, c, fair.Told{Steps: 8, Quiet: true, Worst: 3}, 8, 100, 0, 0, 0, 1, 0, 1, 1, 0)
	c = made(t, 4)
	call(t, c, of(api.ReqInfo, 0), of(api.ReqLoad, 0))
	drive(t, c, fair.Told{Steps: 8, Quiet: true, Worst: 4}, 8, 100, 0)
}

func TestWishesAreNotChanged(t *testing.T) {
	wishes := []int{5, -7, 0, math.MaxInt, math.MinInt}
	l := append(make([]int, 0, 20), wishes...)
	c := stops(t, 20)
	if _, e := fair.Drive(c, 1000, 7, l...); e != api.OK {
		t.Fatal(e)
	}
	if !slices.Equal(l, wishes) || !slices.Equal(l[:20][5:], make([]int, 15)) {
		t.Error(l[:20])
	}
}

// Promise 23.1: the errors.

func TestNoController(t *testing.T) {
	for i, c := range nones(t) {
		for _, most := range []int{math.MinInt, -1, 0, 1, math.MaxInt} {
			for _, bound := range []int{math.MinInt, -1, 0, 1, 64, math.MaxInt} {
				if x, e := fair.Drive(c, most, bound, 1, 2); e != api.ErrArg || x != (fair.Told{}) {
					t.Errorf("%d: Drive(%d, %d): %+v, %v", i, most, bound, x, e)
				}
			}
		}
	}
}

// An error changes nothing, and comes before ErrLock.
func TestWrongBound(t *testing.T) {
	c := stops(t, 3)
	locked := made(t, 4)
	call(t, locked, of(api.ReqLoad, 0))
	if e := locked.Locks().Try(rule.Jobs, outside); e != api.OK {
		t.Fatal(e)
	}
	for _, bound := range []int{0, -1, -1000, math.MinInt} {
		for _, k := range []*ctrl.Ctrl{c, locked, made(t, 1)} {
			busy, n := k.Busy(), len(k.Events())
			for _, most := range []int{-1, 0, 1, math.MaxInt} {
				if x, e := fair.Drive(k, most, bound); e != api.ErrArg || x != (fair.Told{}) {
					t.Errorf("Drive(%d, %d): %+v, %v", most, bound, x, e)
				}
			}
			if k.Step() != 0 || k.Busy() != busy || len(k.Events()) != n {
				t.Errorf("step %d, %d tasks are not over", k.Step(), k.Busy())
			}
		}
	}
	drive(t, c, fair.Told{Steps: 6, Quiet: true, Worst: 2}, 100, 1)
}

// Only a lock that is held from outside can keep all tasks from going on.
func TestStuck(t *testing.T) {
	c := made(t, 4)
	call(t, c, of(api.ReqLoad, 0), of(api.ReqInfo, 0), of(api.ReqClock, 0))
	if e := c.Locks().Try(rule.Prof, outside); e != api.OK {
		t.Fatal(e)
	}
	drive(t, c, fair.Told{Steps: 7, Worst: 1}, 7, 100)
	// Task 2 is over with its last step, and task 3 never was ready.
	stuck(t, c, fair.Told{Steps: 1}, 7, 100)
	for _, most := range []int{math.MinInt, 0, 1, math.MaxInt} {
		stuck(t, c, fair.Told{}, most, 100)
		stuck(t, c, fair.Told{}, most, 1, 5)
	}
	if c.Step() != 8 || c.Busy() != 1 {
		t.Error(c.Step(), c.Busy())
	}
	c.Locks().All(outside)
	drive(t, c, fair.Told{Steps: 4, Quiet: true}, 100, 100)
}

// Together with ErrLock there are the results so far, with as many steps as there may be, too.
func TestStuckAfterSteps(t *testing.T) {
	for _, most := range []int{8, 9, 1000, math.MaxInt} {
		c := made(t, 4)
		call(t, c, of(api.ReqLoad, 0), of(api.ReqInfo, 0), of(api.ReqClock, 0))
		if e := c.Locks().Try(rule.Prof, outside); e != api.OK {
			t.Fatal(e)
		}
		stuck(t, c, fair.Told{Steps: 8, Worst: 4}, most, 100, 0)
	}
}

// A task that has begun may be stuck as well, and then hold others up.
func TestStuckInBetween(t *testing.T) {
	c := made(t, 4)
	call(t, c, tick(5), of(api.ReqLoad, 0))
	if e := c.Locks().Try(rule.Nodes, outside); e != api.OK {
		t.Fatal(e)
	}
	stuck(t, c, fair.Told{Steps: 1}, 100, 1)
	c.Locks().All(outside)
	drive(t, c, fair.Told{Steps: 11, Quiet: true, Worst: 1}, 100, 100, 0)
}

// Promise 23.2.

// The examples of 23.2.
func TestBounds(t *testing.T) {
	for live := range 1025 {
		if n := fair.Each(api.ReqClock, live); n != 4 {
			t.Errorf("Each(ReqClock, %d): %d", live, n)
		}
	}
	if n, m := fair.Each(api.ReqTick, 5), fair.Pass(2, 3); n != 19 || m != 38 {
		t.Error(n, m)
	}
}

func TestEach(t *testing.T) {
	for _, x := range []struct {
		kind, fixed, live int
	}{
		{api.ReqSubmit, 8, 1},
		{api.ReqCancel, 10, 0},
		{api.ReqHold, 8, 0},
		{api.ReqRelease, 8, 1},
		{api.ReqComplete, 10, 0},
		{api.ReqQuery, 4, 0},
		{api.ReqDrain, 10, 1},
		{api.ReqResume, 8, 0},
		{api.ReqTick, 9, 2},
		{api.ReqInfo, 4, 0},
		{api.ReqLoad, 4, 0},
		{api.ReqClock, 4, 0},
		{api.ReqStop, 2, 0},
	} {
		for live := range 1025 {
			if n := fair.Each(x.kind, live); n != x.fixed+x.live*live {
				t.Fatalf("Each(%d, %d): %d; want %d", x.kind, live, n, x.fixed+x.live*live)
			}
		}
	}
}

// A number that is no kind has no locks, and is one of the others.
func TestEachOfNoKind(t *testing.T) {
	for _, kind := range []int{math.MinInt, -1, 0, 14, 15, 1 << 32, 1<<32 + 1, math.MaxInt} {
		for _, live := range []int{0, 1, 64, 1024} {
			if n := fair.Each(kind, live); n != 2 {
				t.Errorf("Each(%d, %d): %d", kind, live, n)
			}
		}
	}
}

func TestPass(t *testing.T) {
	for _, x := range [][3]int{
		{1, 0, 7}, {1, 1, 18}, {1, 2, 29}, {1, 64, 711}, {1, 1024, 11271},
		{2, 0, 7}, {2, 1, 17}, {2, 2, 28}, {2, 3, 38}, {2, 4, 49},
		{3, 2, 27}, {3, 3, 38}, {3, 5, 58}, {3, 6, 69},
		{64, 0, 7}, {64, 63, 637}, {64, 64, 648}, {64, 1024, 10263},
		{65, 64, 647}, {1024, 1023, 10237}, {1024, 1024, 10248}, {1025, 1024, 10247},
		{math.MaxInt, 0, 7}, {math.MaxInt, 1024, 10247},
		{0, 0, 0}, {0, 1, 0}, {0, 1024, 0}, {-1, 0, 0}, {-1, 1024, 0}, {-64, 64, 0}, {math.MinInt, 0, 0}, {math.MinInt, 1024, 0},
	} {
		if n := fair.Pass(x[0], x[1]); n != x[2] {
			t.Errorf("Pass(%d, %d): %d; want %d", x[0], x[1], n, x[2])
		}
	}
}

// For other numbers of jobs only an end is promised.
func TestBoundsOfWrongNumbers(t *testing.T) {
	for _, n := range []int{math.MinInt, math.MinInt + 1, -1, 1025, math.MaxInt - 1, math.MaxInt} {
		for kind := -1; kind < 16; kind++ {
			fair.Each(kind, n)
			fair.Pass(kind, n)
			fair.Pass(n, n)
		}
		if m := fair.Pass(0, n); m != 0 {
			t.Errorf("Pass(0, %d): %d", n, m)
		}
	}
}

// Promise 23.4: those that take the most steps.

// planned returns a controller of 64 nodes with n jobs of all nodes, of which each but the first is to start when the one
// before it has ended.
func planned(t *testing.T, n int) *ctrl.Ctrl {
	t.Helper()
	c := made(t, 64)
	for range n {
		ask(t, c, asked(64, 10, 1))
	}
	sweep(t, c, 1, 64)
	if steps := alone(t, c); steps > fair.Pass(1, n) {
		t.Fatalf("a pass for %d jobs: %d steps", n, steps)
	}
	return c
}

// most performs a request on c, without others, which must not take more steps than Each says, nor fewer than least.
func most(t *testing.T, c *ctrl.Ctrl, r api.Request, least int) {
	t.Helper()
	live := len(c.In(api.Pending, api.Held, api.Running))
	call(t, c, r)
	n := alone(t, c)
	if told, ok := c.Told(c.Tasks()); !ok || told.Err != api.OK {
		t.Fatalf("%+v: %+v, %v", r, told, ok)
	}
	if n > fair.Each(r.Kind, live) || n < least {
		t.Errorf("%+v with %d jobs: %d steps; at least %d, at most %d", r, live, n, least, fair.Each(r.Kind, live))
	}
}

func TestManySteps(t *testing.T) {
	for _, n := range []int{1, 2, 10, 62, 63} {
		plans := n - 1
		most(t, planned(t, n), asked(1, 1, 1000), 5+plans)
		most(t, planned(t, n), at(api.ReqDrain, 0), 7+plans)
		most(t, planned(t, n), tick(1000), 7+n)
		most(t, planned(t, n), of(api.ReqCancel, 1), 9)
		most(t, planned(t, n), of(api.ReqComplete, 1), 9)
		if n > 1 {
			most(t, planned(t, n), of(api.ReqCancel, n), 9)
			most(t, planned(t, n), of(api.ReqHold, n), 7)
		}
		c := planned(t, n)
		held := asked(1, 1, 1000)
		held.Held = true
		most(t, c, held, 6)
		most(t, c, of(api.ReqRelease, n+1), 5+plans)
	}
}

// A tick may meet an End and a Plan of each job, at times that differ.
func TestTickOfManyTimes(t *testing.T) {
	c := made(t, 64)
	var l []api.Request
	for i := range 32 {
		l = append(l, asked(1, int64(100+i), 3))
	}
	for range 32 {
		l = append(l, asked(33, 1000, 2))
	}
	ask(t, c, l...)
	sweep(t, c, 64, 64)
	if n := alone(t, c); n > fair.Pass(64, 64) {
		t.Fatalf("%d steps", n)
	}
	most(t, c, tick(50000), 60)
	if len(c.In(api.TimedOut)) != 64 {
		t.Error(c.Jobs.Counts())
	}
}

// A choice that waits for nothing takes ten steps.
func TestManyChoices(t *testing.T) {
	for some := 1; some <= 64; some++ {
		for _, n := range []int{0, 1, 2, 63, 64} {
			c := made(t, 1)
			for range n {
				ask(t, c, asked(1, 1, 1))
			}
			sweep(t, c, some, 64)
			steps := alone(t, c)
			if least := 6 + n/some + 10*n; steps < least || steps > fair.Pass(some, n) {
				t.Errorf("some %d of %d: %d steps; at most %d", some, n, steps, fair.Pass(some, n))
			}
		}
	}
}
