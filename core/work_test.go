package core_test

import (
	"math"
	"math/rand"
	"slices"
	"testing"

	"berthage/api"
	"berthage/core"
)

func TestNoWork(t *testing.T) {
	c := three(t)
	before := c.Twin()
	for _, w := range []*core.Work{nil, {}} {
		if !w.Done() || w.Reply() != (api.Reply{}) || w.OK() || !w.Step(c) || !w.Step(nil) {
			t.Error(w)
		}
		if !w.Done() || w.Reply() != (api.Reply{}) || w.OK() {
			t.Error(w)
		}
	}
	alike(t, c, before)
}

func TestNothingIsPerformedFirst(t *testing.T) {
	c := three(t)
	before := c.Twin()
	for kind := range 15 {
		w := core.NewWork(of(kind, 1))
		if w.Done() || w.OK() || w.Reply() != (api.Reply{}) {
			t.Error(kind, w.Reply())
		}
	}
	if w := core.NewCommit(api.Choice{Id: 3, At: 19}); w.Done() || w.OK() || w.Reply() != (api.Reply{}) {
		t.Error(w)
	}
	alike(t, c, before)
}

func TestNothingHappensWhenNoneIsLeft(t *testing.T) {
	c := made(t, 4)
	for _, r := range []api.Request{
		asked(1, 5, 0), tick(3), at(api.ReqDrain, 3), at(api.ReqResume, 3), of(api.ReqCancel, 1), of(api.ReqQuery, 9), of(api.ReqStop, 0),
	} {
		w := core.NewWork(r)
		all(t, c, w)
		after, told := c.Twin(), w.Reply()
		if !w.Step(c) || !w.Step(nil) || !w.Step(made(t, 4)) || !w.Done() || w.Reply() != told {
			t.Fatal(r, w.Reply())
		}
		alike(t, c, after)
	}
}

// A Work looks at its core only when it is performed, and only at the fields that its kind has.
func TestWorkIsCleaned(t *testing.T) {
	full := api.Request{Id: 1, User: 3, Width: 2, Limit: 5, Prio: 4, Held: true, Node: 2, By: 6}
	for kind := range 15 {
		r := full
		r.Kind = kind
		w := core.NewWork(r)
		c := three(t)
		all(t, c, w)
		m := &model{size: 4}
		for _, x := range []api.Request{asked(2, 10, 0), asked(3, 10, 0), asked(3, 10, 0)} {
			m.do(x)
		}
		m.commit(api.Choice{Id: 1})
		m.commit(api.Choice{Id: 2, At: 10})
		m.commit(api.Choice{Id: 3, At: 20})
		if want, _ := m.do(r); w.Reply() != want {
			t.Errorf("kind %d: %+v; want %+v", kind, w.Reply(), want)
		}
		m.same(t, c)
	}
}

func TestWants(t *testing.T) {
	c := made(t, 8)
	for _, x := range []struct {
		r    api.Request
		want api.Errno
	}{
		{asked(8, 1, 0), api.OK}, {asked(9, 1, 0), api.ErrWidth}, {asked(64, 1, 0), api.ErrWidth}, {asked(65, 1, 0), api.OK},
		{asked(0, 1, 0), api.OK}, {asked(-1, 1, 0), api.OK}, {asked(math.MaxInt, 1, 0), api.OK}, {asked(math.MinInt, 1, 0), api.OK},
		{asked(9, 1, 1000), api.ErrWidth}, {asked(9, 1, 1001), api.OK}, {asked(9, 1, -1), api.OK},
		{api.Request{Kind: api.ReqSubmit, Width: 9, User: 255}, api.ErrWidth},
		{api.Request{Kind: api.ReqSubmit, Width: 9, User: 256}, api.OK},
		{api.Request{Kind: api.ReqSubmit, Width: 9, User: -1}, api.OK},
		{asked(9, 0, 0), api.ErrWidth}, {asked(9, 1<<20+1, 0), api.ErrWidth}, {asked(8, 0, 0), api.OK},
		{held(9, 1, 0), api.ErrWidth},
		{api.Request{Kind: 0, Width: 9, Limit: 1}, api.OK}, {api.Request{Kind: api.ReqCancel, Width: 9, Limit: 1}, api.OK},
		{api.Request{Kind: 14, Width: 9, Limit: 1}, api.OK},
	} {
		if e := core.Wants(c, x.r); e != x.want {
			t.Errorf("%+v: %v; want %v", x.r, e, x.want)
		}
	}
	full := made(t, 64)
	if e := core.Wants(full, asked(64, 1, 0)); e != api.OK {
		t.Error(e)
	}
}

func TestErrorsOfSubmit(t *testing.T) {
	c := made(t, 8)
	for _, x := range []struct {
		user, width int
		limit       int64
		prio        int
		want        api.Errno
	}{
		{-1, 1, 1, 0, api.ErrArg}, {256, 1, 1, 0, api.ErrArg}, {0, 1, 1, -1, api.ErrArg}, {0, 1, 1, 1001, api.ErrArg},
		{256, 9, 0, 0, api.ErrArg}, {0, 65, 0, 1001, api.ErrArg}, {-1, 0, 0, 0, api.ErrArg},
		{0, 0, 1, 0, api.ErrWidth}, {0, -1, 1, 0, api.ErrWidth}, {0, 9, 1, 0, api.ErrWidth}, {0, 64, 1, 0, api.ErrWidth},
		{0, 65, 1, 0, api.ErrWidth}, {0, 9, 0, 0, api.ErrWidth}, {0, 0, 0, 0, api.ErrWidth}, {0, 65, 1<<20 + 1, 0, api.ErrWidth},
		{0, 8, 0, 0, api.ErrTime}, {0, 1, -1, 0, api.ErrTime}, {0, 8, 1<<20 + 1, 1000, api.ErrTime}, {255, 1, math.MaxInt64, 0, api.ErrTime},
	} {
		for _, h := range []bool{false, true} {
			r := api.Request{Kind: api.ReqSubmit, User: x.user, Width: x.width, Limit: x.limit, Prio: x.prio, Held: h}
			refuse(t, c, r, x.want)
		}
	}
	for range 64 {
		ask(t, c, asked(8, 1<<20, 1000), 2)
	}
	refuse(t, c, asked(1, 1, 0), api.ErrFull)
	refuse(t, c, held(1, 1, 0), api.ErrFull)
	refuse(t, c, asked(9, 1, 0), api.ErrWidth)
	refuse(t, c, asked(1, 0, 0), api.ErrTime)
	refuse(t, c, asked(1, 1, 1001), api.ErrArg)
	ask(t, c, of(api.ReqCancel, 5), 3)
	if r := ask(t, c, asked(1, 1, 0), 2); r.Id != 65 {
		t.Fatal(r)
	}
}

func TestSubmitOfTooManyEver(t *testing.T) {
	c := made(t, 1)
	for id := 1; id <= 1024; id++ {
		if r := ask(t, c, asked(1, 1, 0), 2); r.Id != id {
			t.Fatal(r)
		}
		ask(t, c, of(api.ReqCancel, id), 3)
	}
	refuse(t, c, asked(1, 1, 0), api.ErrFull)
}

func TestSubmit(t *testing.T) {
	c := made(t, 4)
	want := api.Reply{Id: 1, State: api.Pending, Start: -1, End: -1, Plan: -1, A: 3, B: 6}
	if r := ask(t, c, asked(3, 10, 6), 2); r != want {
		t.Fatal(r)
	}
	want = api.Reply{Id: 2, State: api.Held, Start: -1, End: -1, Plan: -1, A: 4, B: 1000}
	if r := ask(t, c, held(4, 1<<20, 1000), 1); r != want {
		t.Fatal(r)
	}
	if j := get(t, c, 1); j != (api.Job{Id: 1, User: 7, Width: 3, Limit: 10, Prio: 6, State: api.Pending, Start: -1, End: -1, Plan: -1}) {
		t.Fatal(j)
	}
	steps(t, c, 0, 4)
}

// ranks returns a core of 64 nodes with jobs of the priorities 5, 9, 5, 1, 5, 1, of which all but the last have a plan.
func ranks(t *testing.T) *core.Core {
	t.Helper()
	c := made(t, 64)
	for i, prio := range []int{5, 9, 5, 1, 5, 1} {
		ask(t, c, asked(1<<i, 10, prio), 2)
	}
	for id, at := range []int64{1: 50, 2: 40, 3: 30, 4: 20, 5: 10} {
		if id > 0 {
			take(t, c, id, at, true)
		}
	}
	steps(t, c, 0, 64, 10, 48, 20, 56, 30, 60, 40, 62, 50, 63, 60, 64)
	return c
}

// with fails the test if not just these jobs have a plan.
func with(t *testing.T, c *core.Core, ids ...int) {
	t.Helper()
	var l []int
	for _, j := range c.All() {
		if j.Plan != -1 {
			l = append(l, j.Id)
		}
	}
	if !slices.Equal(l, ids) {
		t.Fatalf("plans of %v; want %v", l, ids)
	}
}

func TestSubmitDropsPlansOneByOne(t *testing.T) {
	c := ranks(t)
	w := core.NewWork(asked(1, 1, 6))
	for i, left := range [][]int{{1, 2, 3, 4, 5}, {2, 3, 4, 5}, {2, 4, 5}, {2, 5}, {2}} {
		if w.Step(c) || w.Done() {
			t.Fatal("done after part", i+1)
		}
		with(t, c, left...)
	}
	steps(t, c, 0, 64, 40, 62, 50, 64)
	if !w.Step(c) {
		t.Fatal("a part is left")
	}
	with(t, c, 2)
	if w.Reply() != (api.Reply{Id: 7, State: api.Pending, Start: -1, End: -1, Plan: -1, A: 1, B: 6}) {
		t.Fatal(w.Reply())
	}
}

func TestWhichPlansSubmitDrops(t *testing.T) {
	for _, x := range []struct {
		prio int
		left []int
	}{{1000, nil}, {10, nil}, {9, []int{2}}, {6, []int{2}}, {5, []int{1, 2, 3, 5}}, {2, []int{1, 2, 3, 5}}, {1, []int{1, 2, 3, 4, 5}}, {0, []int{1, 2, 3, 4, 5}}} {
		c := ranks(t)
		ask(t, c, asked(1, 1, x.prio), 2+5-len(x.left))
		with(t, c, x.left...)
		if !slices.Equal(c.Steps(), c.Should()) {
			t.Fatal(c.Steps(), c.Should())
		}
		// A held one drops none, until it is released.
		c = ranks(t)
		ask(t, c, held(1, 1, x.prio), 1)
		with(t, c, 1, 2, 3, 4, 5)
		r := ask(t, c, of(api.ReqRelease, 7), 2+5-len(x.left))
		if r != (api.Reply{Id: 7, State: api.Pending, Start: -1, End: -1, Plan: -1, A: 1, B: x.prio}) {
			t.Fatal(r)
		}
		with(t, c, x.left...)
	}
}

// Of the same priority, the one with the lower id precedes: one that is released is not the last one.
func TestReleaseOfALowId(t *testing.T) {
	c := made(t, 4)
	ask(t, c, held(1, 10, 5), 1)
	ask(t, c, asked(1, 10, 5), 2)
	ask(t, c, asked(1, 10, 6), 2)
	take(t, c, 2, 3, true)
	take(t, c, 3, 3, true)
	w := core.NewWork(of(api.ReqRelease, 1))
	if w.Step(c); get(t, c, 1).State != api.Pending || get(t, c, 2).Plan != 3 {
		t.Fatal("not pending after the first part")
	}
	if n := all(t, c, w); n != 2 {
		t.Fatal(n)
	}
	with(t, c, 3)
	steps(t, c, 0, 4, 3, 3, 13, 4)
}

// Running jobs are not displaced, nor are their nodes taken from them.
func TestSubmitBehindRunningJobs(t *testing.T) {
	c := three(t)
	ask(t, c, asked(4, 10, 1000), 4)
	steps(t, c, 0, 2, 10, 4)
	if get(t, c, 1).State != api.Running {
		t.Fatal(get(t, c, 1))
	}
}

func TestErrorsOfJobs(t *testing.T) {
	c := made(t, 4)
	ask(t, c, asked(1, 10, 0), 2) // 1: runs
	ask(t, c, asked(1, 10, 0), 2) // 2: pending
	ask(t, c, held(1, 10, 0), 1)  // 3: held
	for range 3 {
		ask(t, c, asked(1, 5, 0), 2) // 4: completed; 5: cancelled; 6: timed out
	}
	for _, id := range []int{4, 6} {
		take(t, c, id, 0, true)
	}
	ask(t, c, of(api.ReqComplete, 4), 3)
	ask(t, c, of(api.ReqCancel, 5), 3)
	ask(t, c, tick(5), 2)
	take(t, c, 1, 5, true)
	kinds := []int{api.ReqCancel, api.ReqHold, api.ReqRelease, api.ReqComplete, api.ReqQuery}
	for _, id := range []int{0, -1, 7, math.MinInt, 1<<32 + 1, math.MaxInt} {
		for _, kind := range kinds {
			refuse(t, c, of(kind, id), api.ErrNone)
		}
	}
	right := map[int][]int{
		api.ReqCancel: {1, 2, 3}, api.ReqComplete: {1}, api.ReqHold: {2}, api.ReqRelease: {3}, api.ReqQuery: {1, 2, 3, 4, 5, 6},
	}
	for id := 1; id <= 6; id++ {
		for _, kind := range kinds {
			if !slices.Contains(right[kind], id) {
				refuse(t, c, of(kind, id), api.ErrState)
				continue
			}
			w := core.NewWork(of(kind, id))
			if all(t, c.Twin(), w); w.Reply().Err != api.OK || w.Reply().Id != id {
				t.Fatal(kind, id, w.Reply())
			}
		}
	}
}

func TestCancelPartByPart(t *testing.T) {
	for _, x := range []struct{ kind, state int }{{api.ReqCancel, api.Cancelled}, {api.ReqComplete, api.Completed}} {
		c := three(t)
		ask(t, c, tick(4), 1)
		w := core.NewWork(of(x.kind, 1))
		if w.Step(c) || get(t, c, 1).State != x.state || c.State(0) != api.Busy {
			t.Fatal("part 1", get(t, c, 1))
		}
		steps(t, c, 4, 2, 10, 1, 30, 4)
		if w.Step(c) || c.State(0) != api.Idle || c.State(1) != api.Idle {
			t.Fatal("part 2", c.Idle())
		}
		steps(t, c, 4, 2, 10, 1, 30, 4)
		if !w.Step(c) || w.Reply() != (api.Reply{Id: 1, State: x.state, Start: 0, End: 4, Plan: -1, A: 2, B: 0}) {
			t.Fatal("part 3", w.Reply())
		}
		steps(t, c, 4, 4, 10, 1, 30, 4)
	}
}

// A job that ends in the unit in which it has begun gives back all of its time.
func TestCancelAtOnce(t *testing.T) {
	c := made(t, 4)
	ask(t, c, asked(4, 1, 0), 2)
	take(t, c, 1, 0, true)
	steps(t, c, 0, 0, 1, 4)
	if r := ask(t, c, of(api.ReqCancel, 1), 3); r.Start != 0 || r.End != 0 || r.State != api.Cancelled {
		t.Fatal(r)
	}
	steps(t, c, 0, 4)
}

func TestCancelOfAPlan(t *testing.T) {
	c := three(t)
	w := core.NewWork(of(api.ReqCancel, 2))
	for part := 1; part <= 2; part++ {
		if w.Step(c) || get(t, c, 2).State != api.Cancelled || get(t, c, 2).Plan != -1 {
			t.Fatal(part, get(t, c, 2))
		}
		steps(t, c, 0, 2, 10, 1, 30, 4)
	}
	if !w.Step(c) || w.Reply() != (api.Reply{Id: 2, State: api.Cancelled, Start: -1, End: -1, Plan: -1, A: 3}) {
		t.Fatal(w.Reply())
	}
	steps(t, c, 0, 2, 10, 4, 20, 1, 30, 4)
}

func TestCancelOfWaitingJobs(t *testing.T) {
	c := made(t, 4)
	ask(t, c, asked(3, 5, 8), 2)
	ask(t, c, held(3, 5, 8), 1)
	for id := 1; id <= 2; id++ {
		want := api.Reply{Id: id, State: api.Cancelled, Start: -1, End: -1, Plan: -1, A: 3, B: 8}
		if r := ask(t, c, of(api.ReqCancel, id), 3); r != want {
			t.Fatal(r)
		}
	}
	steps(t, c, 0, 4)
	if c.Version() != 0 {
		t.Fatal("the profile was changed")
	}
}

// Of the nodes that are given back, those that were drained meanwhile do not become free.
func TestCancelOfDrainedNodes(t *testing.T) {
	c := made(t, 4)
	ask(t, c, asked(3, 10, 0), 2)
	take(t, c, 1, 0, true)
	ask(t, c, at(api.ReqDrain, 1), 1)
	steps(t, c, 0, 1, 10, 3)
	ask(t, c, of(api.ReqComplete, 1), 3)
	steps(t, c, 0, 3)
	if c.State(1) != api.Drained || c.State(0) != api.Idle {
		t.Fatal(c.State(1))
	}
	ask(t, c, at(api.ReqResume, 1), 1)
	steps(t, c, 0, 4)
}

func TestHold(t *testing.T) {
	c := three(t)
	w := core.NewWork(of(api.ReqHold, 3))
	if w.Step(c) || get(t, c, 3).State != api.Held || get(t, c, 3).Plan != -1 {
		t.Fatal(get(t, c, 3))
	}
	steps(t, c, 0, 2, 10, 1, 30, 4)
	if !w.Step(c) || w.Reply() != (api.Reply{Id: 3, State: api.Held, Start: -1, End: -1, Plan: -1, A: 3}) {
		t.Fatal(w.Reply())
	}
	steps(t, c, 0, 2, 10, 1, 20, 4)
	with(t, c, 2)
	// One without a plan has two parts, too.
	ask(t, c, of(api.ReqRelease, 3), 2)
	ask(t, c, of(api.ReqHold, 3), 2)
	steps(t, c, 0, 2, 10, 1, 20, 4)
}

func TestQuestions(t *testing.T) {
	c := three(t)
	ask(t, c, held(1, 1, 0), 1)
	ask(t, c, at(api.ReqDrain, 1), 3)
	ask(t, c, at(api.ReqDrain, 3), 1)
	before := c.Twin()
	for _, x := range []struct {
		r    api.Request
		want api.Reply
	}{
		{of(api.ReqQuery, 1), api.Reply{Id: 1, State: api.Running, Start: 0, End: 10, Plan: -1, A: 2}},
		{of(api.ReqQuery, 4), api.Reply{Id: 4, State: api.Held, Start: -1, End: -1, Plan: -1, A: 1}},
		{of(api.ReqInfo, 0), api.Reply{A: 1, B: 2, C: 1}},
		{of(api.ReqLoad, 0), api.Reply{A: 2, B: 1, C: 1}},
		{of(api.ReqClock, 0), api.Reply{Start: 0, A: 1}},
	} {
		if r := ask(t, c, x.r, 1); r != x.want {
			t.Errorf("%+v: %+v; want %+v", x.r, r, x.want)
		}
	}
	alike(t, c, before)
	ask(t, c, tick(6), 1)
	if r := ask(t, c, of(api.ReqClock, 0), 1); r != (api.Reply{Start: 6, A: 1}) {
		t.Error(r)
	}
}

func TestErrorsOfNodes(t *testing.T) {
	c := three(t)
	for _, n := range []int{math.MinInt, -1, 4, 63, 64, 1 << 32, math.MaxInt} {
		refuse(t, c, at(api.ReqDrain, n), api.ErrNode)
		refuse(t, c, at(api.ReqResume, n), api.ErrNode)
	}
	for n := range 4 {
		refuse(t, c, at(api.ReqResume, n), api.ErrState)
	}
	ask(t, c, at(api.ReqDrain, 0), 3)
	ask(t, c, at(api.ReqDrain, 2), 1)
	take(t, c, 2, 20, false)
	ask(t, c, at(api.ReqResume, 2), 1)
	take(t, c, 2, 20, true)
	ask(t, c, at(api.ReqDrain, 3), 2)
	for _, n := range []int{0, 3} {
		refuse(t, c, at(api.ReqDrain, n), api.ErrState)
	}
}

func TestDrainPartByPart(t *testing.T) {
	c := ranks(t)
	w := core.NewWork(at(api.ReqDrain, 9))
	for i, left := range [][]int{{2, 3, 4, 5}, {3, 4, 5}, {4, 5}, {5}, {}} {
		if w.Step(c) || c.State(9) != api.Idle {
			t.Fatal("drained after part", i+1)
		}
		with(t, c, left...)
	}
	steps(t, c, 0, 64)
	if !w.Step(c) || w.Reply() != (api.Reply{Id: 9, State: api.Drained}) {
		t.Fatal(w.Reply())
	}
	steps(t, c, 0, 63)
}

func TestDrainAndResume(t *testing.T) {
	c := made(t, 4)
	ask(t, c, asked(2, 10, 0), 2)
	take(t, c, 1, 0, true)
	for _, x := range []struct {
		r    api.Request
		want api.Reply
		l    []int64
	}{
		{at(api.ReqDrain, 0), api.Reply{Id: 0, State: api.Draining}, []int64{0, 2, 10, 3}},
		{at(api.ReqDrain, 3), api.Reply{Id: 3, State: api.Drained}, []int64{0, 1, 10, 2}},
		{at(api.ReqResume, 0), api.Reply{Id: 0, State: api.Busy}, []int64{0, 1, 10, 3}},
		{at(api.ReqResume, 3), api.Reply{Id: 3, State: api.Idle}, []int64{0, 2, 10, 4}},
		{at(api.ReqDrain, 1), api.Reply{Id: 1, State: api.Draining}, []int64{0, 2, 10, 3}},
		{tick(10), api.Reply{Start: 10, A: 3}, []int64{10, 3}},
		{at(api.ReqResume, 1), api.Reply{Id: 1, State: api.Idle}, []int64{10, 4}},
	} {
		w := core.NewWork(x.r)
		if all(t, c, w); w.Reply() != x.want {
			t.Fatalf("%+v: %+v; want %+v", x.r, w.Reply(), x.want)
		}
		steps(t, c, x.l...)
	}
}

func TestErrorsOfTick(t *testing.T) {
	c := made(t, 4)
	for _, by := range []int64{math.MinInt64, -1, 0, 1<<40 + 1, 1 << 41, math.MaxInt64} {
		refuse(t, c, tick(by), api.ErrTime)
	}
	ask(t, c, tick(5), 1)
	for _, by := range []int64{1<<40 - 4, 1 << 40, math.MaxInt64, math.MaxInt64 - 4} {
		refuse(t, c, tick(by), api.ErrTime)
	}
	if r := ask(t, c, tick(1<<40-5), 1); r != (api.Reply{Start: 1 << 40, A: 4}) {
		t.Fatal(r)
	}
	for _, by := range []int64{1, 0, -1, 1 << 40} {
		refuse(t, c, tick(by), api.ErrTime)
	}
}

func TestTickPartByPart(t *testing.T) {
	c := three(t)
	w := core.NewWork(tick(35))
	for i, x := range []struct {
		now    int64
		states []int
	}{
		{10, []int{api.TimedOut, api.Running, api.Pending}},
		{20, []int{api.TimedOut, api.TimedOut, api.Running}},
		{30, []int{api.TimedOut, api.TimedOut, api.TimedOut}},
		{35, []int{api.TimedOut, api.TimedOut, api.TimedOut}},
	} {
		if w.Step(c) != (i == 3) || c.Now() != x.now {
			t.Fatal(i, c.Now())
		}
		for k, state := range x.states {
			if get(t, c, k+1).State != state {
				t.Fatal(i, c.All())
			}
		}
		if !slices.Equal(c.Steps(), c.Should()) {
			t.Fatal(c.Steps(), c.Should())
		}
	}
	if w.Reply() != (api.Reply{Start: 35, A: 4}) {
		t.Fatal(w.Reply())
	}
	for id, x := range []struct{ start, end int64 }{{}, {0, 10}, {10, 20}, {20, 30}} {
		if id == 0 {
			continue
		}
		if j := get(t, c, id); j.Start != x.start || j.End != x.end || j.Plan != -1 {
			t.Fatal(j)
		}
	}
}

// What lies just at the target happens; what lies behind it does not.
func TestTickUpToTheTarget(t *testing.T) {
	c := three(t)
	if r := ask(t, c, tick(9), 1); r != (api.Reply{Start: 9, A: 2}) || get(t, c, 1).State != api.Running {
		t.Fatal(r)
	}
	if r := ask(t, c, tick(1), 2); r != (api.Reply{Start: 10, A: 1}) {
		t.Fatal(r)
	}
	if get(t, c, 1).State != api.TimedOut || get(t, c, 1).End != 10 || get(t, c, 2).State != api.Running || get(t, c, 2).Start != 10 {
		t.Fatal(c.All())
	}
}

// At one time, nodes are given back first; then jobs begin in the order of their priorities, each on the lowest nodes.
func TestTickOfManyAtOneTime(t *testing.T) {
	c := made(t, 8)
	for _, r := range []api.Request{
		asked(3, 10, 0), asked(2, 20, 0), asked(3, 10, 0), // running: nodes 0 to 2, 3 and 4, 5 to 7
		asked(1, 5, 1), asked(2, 5, 7), asked(1, 5, 7), asked(2, 4, 0), // from 10 on
	} {
		ask(t, c, r, 2)
	}
	for id, at := range []int64{0, 0, 0, 10, 10, 10, 10} {
		take(t, c, id+1, at, true)
	}
	ask(t, c, tick(11), 2)
	want := []uint64{0b111, 0b11000, 0b11100000, 0b100000, 0b11, 0b100, 0b11000000}
	for i, j := range c.All() {
		if j.Nodes != want[i] {
			t.Errorf("job %d has the nodes %b; want %b", j.Id, j.Nodes, want[i])
		}
	}
	if j := get(t, c, 3); j.State != api.TimedOut || j.End != 10 {
		t.Error(j)
	}
	steps(t, c, 11, 0, 14, 2, 15, 6, 20, 8)
}

// Where a plan, or an End, was left behind by changing the tables themselves, time goes on all the same.
func TestTickEndsWhateverIsLeftBehind(t *testing.T) {
	c := three(t)
	c.Advance(12)
	c.Jobs.Plan(3, 12)
	w := core.NewWork(tick(3))
	if all(t, c, w); c.Now() != 15 || w.Reply().Start != 15 {
		t.Fatal(c.Now(), w.Reply())
	}
}

// The nodes on which a job begins are the lowest that are Idle, not those beside each other.
func TestBeginOnTheLowestNodes(t *testing.T) {
	c := made(t, 6)
	for range 3 {
		ask(t, c, asked(1, 10, 0), 2)
	}
	for id := 1; id <= 3; id++ {
		take(t, c, id, 0, true)
	}
	ask(t, c, of(api.ReqComplete, 2), 3)
	ask(t, c, at(api.ReqDrain, 3), 1)
	ask(t, c, asked(2, 10, 0), 2)
	take(t, c, 4, 0, true)
	if j := get(t, c, 4); j.Nodes != 0b10010 || j.State != api.Running || j.Start != 0 || j.End != 10 || j.Plan != -1 {
		t.Fatalf("%+v", j)
	}
}

func TestChoicePartByPart(t *testing.T) {
	c := three(t)
	ask(t, c, of(api.ReqComplete, 1), 3)
	steps(t, c, 0, 4, 10, 1, 30, 4)
	for _, x := range []struct {
		at    int64
		parts [][]int64
		want  api.Job
	}{
		{
			5, [][]int64{{0, 4, 10, 1, 30, 4}, {0, 4, 20, 1, 30, 4}, {0, 4, 5, 1, 15, 4, 20, 1, 30, 4}, {0, 4, 5, 1, 15, 4, 20, 1, 30, 4}},
			api.Job{Id: 2, User: 7, Width: 3, Limit: 10, State: api.Pending, Start: -1, End: -1, Plan: 5},
		}, {
			0, [][]int64{{0, 4, 5, 1, 15, 4, 20, 1, 30, 4}, {0, 4, 20, 1, 30, 4}, {0, 1, 10, 4, 20, 1, 30, 4}, {0, 1, 10, 4, 20, 1, 30, 4}},
			api.Job{Id: 2, User: 7, Width: 3, Limit: 10, State: api.Running, Start: 0, End: 10, Plan: -1, Nodes: 7},
		},
	} {
		before := get(t, c, 2)
		w := core.NewCommit(api.Choice{Id: 2, At: x.at})
		for i, l := range x.parts {
			if w.Step(c) != (i == 3) || !w.OK() {
				t.Fatal(i, w.OK())
			}
			steps(t, c, l...)
			if j := get(t, c, 2); i < 3 && j != before || i == 3 && j != x.want {
				t.Fatalf("part %d: %+v", i+1, j)
			}
		}
	}
}

func TestChoiceTakesEffectOnce(t *testing.T) {
	c := made(t, 4)
	ask(t, c, asked(2, 10, 0), 2)
	take(t, c, 1, 5, true)
	take(t, c, 1, 5, false)
	take(t, c, 1, 6, false)
	take(t, c, 1, 0, true)
	take(t, c, 1, 0, false)
}

// 12.1's and 12.2's examples, and that of the chapter.
func TestExamples(t *testing.T) {
	c := made(t, 4)
	ask(t, c, asked(2, 10, 0), 2)
	take(t, c, 1, 0, true)
	if c.Holder(1).Id != 1 || c.Holder(2) != (api.Job{}) {
		t.Fatal(c.Holder(1), c.Holder(2))
	}
	steps(t, c, 0, 2, 10, 4)
	ask(t, c, asked(1, 10, 0), 2)
	ask(t, c, asked(1, 10, 0), 2)
	take(t, c, 2, 10, true)
	take(t, c, 3, 10, true)
	ask(t, c, asked(1, 10, 1), 4)
}

// anyRequest returns some request; most of them can be performed.
func anyRequest(r *rand.Rand, m *model) api.Request {
	some := func(low, high int) int { return low + r.Intn(high-low+1) }
	x := api.Request{
		Id: some(max(0, len(m.jobs)-12), len(m.jobs)+1), User: some(-1, 300), Width: some(1, m.size), Limit: int64(some(1, 12)), Prio: some(0, 3),
		Held: r.Intn(6) == 0, Node: some(-1, m.size), By: int64(some(0, 9)),
	}
	kinds := []int{1, 1, 1, 1, 1, 2, 3, 4, 4, 5, 5, 6, 7, 8, 8, 9, 9, 9, 10, 11, 12}
	x.Kind = kinds[r.Intn(len(kinds))]
	if r.Intn(30) == 0 {
		x.Kind = []int{-1, 0, 14, 99}[r.Intn(4)]
	}
	if x.User = max(0, x.User); x.User > 200 && r.Intn(4) > 0 {
		x.User = 9
	}
	if r.Intn(30) == 0 {
		x.Width, x.Limit = some(-1, 70), int64(some(-1, 12))
	}
	return x
}

// anyChoice returns some choice, often for a job that waits, and near to now.
func anyChoice(r *rand.Rand, m *model) api.Choice {
	x := api.Choice{Id: r.Intn(len(m.jobs) + 2), At: m.now + int64(r.Intn(40)) - 2}
	if l := m.in(api.Pending); len(l) > 0 && r.Intn(8) > 0 {
		x.Id = l[r.Intn(len(l))].Id
	}
	if r.Intn(3) == 0 {
		x.At = m.now
	}
	return x
}

// Whatever is performed, and in whatever order, a core is as the model: replies, parts, jobs, nodes and the profile.
func TestAnyWorks(t *testing.T) {
	r := rand.New(rand.NewSource(12))
	for range 150 {
		size := 1 + r.Intn(10)
		c, m := made(t, size), &model{size: size}
		for step := range 150 {
			if r.Intn(5) < 2 {
				x := anyChoice(r, m)
				if fits := m.fits(x); c.Fits(x) != fits {
					t.Fatalf("%+v fits: %v", x, !fits)
				}
				w := core.NewCommit(x)
				parts := all(t, c, w)
				if ok, want := m.commit(x); w.OK() != ok || parts != want || !m.closed && w.Reply() != (api.Reply{}) {
					t.Fatalf("%+v: %v, %d parts, %+v; want %v, %d", x, w.OK(), parts, w.Reply(), ok, want)
				}
			} else {
				x := anyRequest(r, m)
				if step > 140 && r.Intn(10) == 0 {
					x.Kind = api.ReqStop
				}
				w := core.NewWork(x)
				parts := all(t, c, w)
				if told, want := m.do(x); w.Reply() != told || parts != want || w.OK() {
					t.Fatalf("%+v: %+v, %d parts; want %+v, %d", x, w.Reply(), parts, told, want)
				}
			}
			m.same(t, c)
			sound(t, c)
		}
		alike(t, c, c.Twin())
	}
}

// With limits and times of all sizes the profile is the required one, too.
func TestAnyWorksOfAllSizes(t *testing.T) {
	r := rand.New(rand.NewSource(34))
	for range 60 {
		c, m := made(t, 1+r.Intn(64)), &model{}
		m.size = c.Size()
		for range 200 {
			m.jobs, m.now = c.All(), c.Now()
			w := core.NewCommit(anyChoice(r, m))
			if r.Intn(5) > 1 {
				x := anyRequest(r, m)
				x.Limit, x.By = 1+r.Int63n(1<<r.Intn(21)), 1+r.Int63n(1<<r.Intn(38))
				if x.Width = min(x.Width, 1+r.Intn(m.size)); r.Intn(2) == 0 {
					x.By = x.Limit
				}
				w = core.NewWork(x)
			} else if l := c.Waiting(); len(l) > 0 {
				j := l[r.Intn(len(l))]
				earliest, _ := c.Earliest(c.Now()+r.Int63n(1<<r.Intn(38)), j.Limit, j.Width)
				w = core.NewCommit(api.Choice{Id: j.Id, At: earliest})
			}
			all(t, c, w)
			if !slices.Equal(c.Steps(), c.Should()) {
				t.Fatal(c.Steps(), c.Should())
			}
			sound(t, c)
		}
	}
}

// Whatever two Works do between each other's parts, and whatever they are performed on, they end and do not panic.
func TestWorksOutOfTurn(t *testing.T) {
	r := rand.New(rand.NewSource(56))
	for range 300 {
		size := 1 + r.Intn(6)
		m := &model{size: size}
		l := []*core.Core{made(t, size), made(t, 1+r.Intn(6)), nil, {}}
		for range 40 {
			m.jobs, m.now = l[0].All(), l[0].Now()
			works := []*core.Work{core.NewWork(anyRequest(r, m)), core.NewCommit(anyChoice(r, m)), core.NewWork(anyRequest(r, m))}
			for range 30 {
				c := l[0]
				if r.Intn(20) == 0 {
					c = l[r.Intn(len(l))]
				}
				works[r.Intn(len(works))].Step(c)
			}
		}
	}
}
