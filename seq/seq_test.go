package seq_test

import (
	"math"
	"math/rand"
	"slices"
	"testing"

	"berthage/api"
	"berthage/core"
	"berthage/job"
	"berthage/seq"
)

// made returns a scheduler of n nodes.
func made(t *testing.T, n int) *seq.Sched {
	t.Helper()
	s, e := seq.New(n)
	if e != api.OK || s == nil {
		t.Fatalf("New(%d): %v", n, e)
	}
	return s
}

// empty returns the schedulers that have no core.
func empty() []*seq.Sched {
	return []*seq.Sched{nil, {}, {Core: &core.Core{}}, seq.Over(nil), seq.Over(&core.Core{}), seq.Over(&core.Core{Jobs: job.New()})}
}

// asked returns a valid request for a job.
func asked(width int, limit int64, prio int) api.Request {
	return api.Request{Kind: api.ReqSubmit, User: 7, Width: width, Limit: limit, Prio: prio}
}

// held returns a valid request for a held job.
func held(width int, limit int64, prio int) api.Request {
	r := asked(width, limit, prio)
	r.Held = true
	return r
}

// of returns a request for a job.
func of(kind, id int) api.Request {
	return api.Request{Kind: kind, Id: id}
}

// at returns a request for a node.
func at(kind, n int) api.Request {
	return api.Request{Kind: kind, Node: n}
}

// tick returns a ReqTick.
func tick(by int64) api.Request {
	return api.Request{Kind: api.ReqTick, By: by}
}

// ask performs a request that must not fail.
func ask(t *testing.T, s *seq.Sched, r api.Request) api.Reply {
	t.Helper()
	told := s.Do(r)
	if told.Err != api.OK {
		t.Fatalf("%+v: %+v", r, told)
	}
	return told
}

// take performs a choice that must take effect, or must not and then changes nothing.
func take(t *testing.T, s *seq.Sched, id int, at int64, want bool) {
	t.Helper()
	before := s.Twin()
	if ok := s.Commit(api.Choice{Id: id, At: at}); ok != want {
		t.Fatalf("job %d at %d: %v", id, at, ok)
	}
	if !want {
		alike(t, s, before)
	}
}

// refuse performs a request that must return an error, and change nothing.
func refuse(t *testing.T, s *seq.Sched, r api.Request, want api.Errno) {
	t.Helper()
	before := s.Twin()
	if told := s.Do(r); told != (api.Reply{Err: want}) {
		t.Fatalf("%+v: %+v; want %v", r, told, want)
	}
	alike(t, s, before)
}

// alike fails the test if the cores of two schedulers differ.
func alike(t *testing.T, a, b *seq.Sched) {
	t.Helper()
	if a.Closed() != b.Closed() || a.Now() != b.Now() || a.Version() != b.Version() || a.Size() != b.Size() {
		t.Fatalf("closed %v and %v, now %d and %d, version %d and %d",
			a.Closed(), b.Closed(), a.Now(), b.Now(), a.Version(), b.Version())
	}
	if !slices.Equal(a.Core.Jobs.All(), b.Core.Jobs.All()) {
		t.Fatalf("jobs %+v and %+v", a.Core.Jobs.All(), b.Core.Jobs.All())
	}
	for n := range a.Size() {
		if a.State(n) != b.State(n) {
			t.Fatalf("node %d is %d and %d", n, a.State(n), b.State(n))
		}
	}
	if !slices.Equal(a.Steps(), b.Steps()) {
		t.Fatalf("steps %v and %v", a.Steps(), b.Steps())
	}
}

// get returns a job.
func get(t *testing.T, s *seq.Sched, id int) api.Job {
	t.Helper()
	j, e := s.Get(id)
	if e != api.OK {
		t.Fatalf("job %d: %v", id, e)
	}
	return j
}

// plans fails the test if the jobs do not have these plans, in the order of their ids.
func plans(t *testing.T, s *seq.Sched, want ...int64) {
	t.Helper()
	var l []int64
	for _, j := range s.Core.Jobs.All() {
		l = append(l, j.Plan)
	}
	if !slices.Equal(l, want) {
		t.Fatalf("plans %v; want %v", l, want)
	}
}

func TestNew(t *testing.T) {
	for _, n := range []int{math.MinInt, -1, 0, 65, 1 << 32, 1<<32 + 4, math.MaxInt} {
		if s, e := seq.New(n); s != nil || e != api.ErrArg {
			t.Errorf("New(%d): %v, %v", n, s, e)
		}
	}
	for n := 1; n <= 64; n++ {
		s := made(t, n)
		if s.None() || s.Closed() || s.Size() != n || s.Now() != 0 || s.Len() != 0 || s.Idle().Len() != n {
			t.Fatal(n, s.Size(), s.Now(), s.Len())
		}
		if !slices.Equal(s.Steps(), []api.Step{{At: 0, Free: n}}) {
			t.Fatal(s.Steps())
		}
	}
	a, b := made(t, 4), made(t, 4)
	ask(t, a, asked(1, 1, 0))
	if b.Len() != 0 {
		t.Fatal("two schedulers share their core")
	}
}

func TestOver(t *testing.T) {
	c, _ := core.New(4)
	s := seq.Over(c)
	if s.Core != c {
		t.Fatal("another core")
	}
	ask(t, s, asked(2, 10, 0))
	take(t, s, 1, 0, true)
	if c.Len() != 1 || c.Holder(1).Id != 1 || c.Holder(2).Id != 0 {
		t.Fatal(c.Holder(1), c.Holder(2))
	}
	// What is done to the core is done to the scheduler, and to any other one over it.
	w := core.NewWork(tick(3))
	for !w.Step(c) {
	}
	if other := seq.Over(c); s.Now() != 3 || other.Do(of(api.ReqClock, 0)) != (api.Reply{Start: 3, A: 2}) {
		t.Fatal(s.Now())
	}
	// A scheduler that was put together is as one that Over has returned.
	if (&seq.Sched{Core: c}).Do(of(api.ReqLoad, 0)) != (api.Reply{C: 1}) {
		t.Fatal("put together")
	}
	for _, c := range []*core.Core{nil, {}} {
		if s := seq.Over(c); s == nil || s.Core != c {
			t.Fatal(s)
		}
	}
}

func TestWithoutACore(t *testing.T) {
	for i, s := range empty() {
		for _, kind := range []int{math.MinInt, -1, 0, 1, 2, 3, 4, 5, 6, 7, 8, 9, 10, 11, 12, 13, 14, math.MaxInt} {
			r := asked(1, 1, 0)
			r.Kind, r.Id, r.By = kind, 1, 1
			if told := s.Do(r); told != (api.Reply{Err: api.ErrState}) {
				t.Errorf("%d: kind %d: %+v", i, kind, told)
			}
		}
		want := []api.Reply{{Err: api.ErrState}, {Err: api.ErrState}, {Err: api.ErrState}}
		if l := s.All(asked(1, 1, 0), of(99, 1), tick(0)); !slices.Equal(l, want) {
			t.Error(i, l)
		}
		if l := s.All(); len(l) != 0 {
			t.Error(i, l)
		}
		if s.Commit(api.Choice{Id: 1, At: 0}) || s.Commit(api.Choice{}) || len(s.Items()) != 0 || s.Twin() != nil {
			t.Error(i)
		}
	}
}

// Do performs all parts: those that drop plans, those of a time that goes on, those that give back what a job had.
func TestDoPerformsAllParts(t *testing.T) {
	s := made(t, 4)
	for id := 1; id <= 4; id++ {
		if r := ask(t, s, asked(1, 10, 1)); r != (api.Reply{Id: id, State: api.Pending, Start: -1, End: -1, Plan: -1, A: 1, B: 1}) {
			t.Fatal(r)
		}
		take(t, s, id, int64(5*id), true)
	}
	plans(t, s, 5, 10, 15, 20)
	if r := ask(t, s, tick(12)); r != (api.Reply{Start: 12, A: 2}) {
		t.Fatal(r)
	}
	if r := ask(t, s, asked(4, 10, 2)); r != (api.Reply{Id: 5, State: api.Pending, Start: -1, End: -1, Plan: -1, A: 4, B: 2}) {
		t.Fatal(r)
	}
	plans(t, s, -1, -1, -1, -1, -1)
	if want := []api.Step{{At: 12, Free: 2}, {At: 15, Free: 3}, {At: 20, Free: 4}}; !slices.Equal(s.Steps(), want) {
		t.Fatal(s.Steps())
	}
	if r := ask(t, s, of(api.ReqComplete, 1)); r != (api.Reply{Id: 1, State: api.Completed, Start: 5, End: 12, Plan: -1, A: 1, B: 1}) {
		t.Fatal(r)
	}
	if want := []api.Step{{At: 12, Free: 3}, {At: 20, Free: 4}}; !slices.Equal(s.Steps(), want) || s.State(0) != api.Idle {
		t.Fatal(s.Steps())
	}
	take(t, s, 3, 13, true)
	if r := ask(t, s, at(api.ReqDrain, 3)); r != (api.Reply{Id: 3, State: api.Drained}) {
		t.Fatal(r)
	}
	plans(t, s, -1, -1, -1, -1, -1)
	if want := []api.Step{{At: 12, Free: 2}, {At: 20, Free: 3}}; !slices.Equal(s.Steps(), want) {
		t.Fatal(s.Steps())
	}
}

func TestDoOfEveryKind(t *testing.T) {
	s := made(t, 4)
	for i, x := range []struct {
		r    api.Request
		want api.Reply
	}{
		{asked(2, 10, 3), api.Reply{Id: 1, State: api.Pending, Start: -1, End: -1, Plan: -1, A: 2, B: 3}},
		{held(1, 10, 4), api.Reply{Id: 2, State: api.Held, Start: -1, End: -1, Plan: -1, A: 1, B: 4}},
		{of(api.ReqHold, 1), api.Reply{Id: 1, State: api.Held, Start: -1, End: -1, Plan: -1, A: 2, B: 3}},
		{of(api.ReqRelease, 2), api.Reply{Id: 2, State: api.Pending, Start: -1, End: -1, Plan: -1, A: 1, B: 4}},
		{of(api.ReqQuery, 1), api.Reply{Id: 1, State: api.Held, Start: -1, End: -1, Plan: -1, A: 2, B: 3}},
		{of(api.ReqLoad, 0), api.Reply{A: 1, B: 1}},
		{at(api.ReqDrain, 3), api.Reply{Id: 3, State: api.Drained}},
		{of(api.ReqInfo, 0), api.Reply{A: 3, C: 1}},
		{at(api.ReqResume, 3), api.Reply{Id: 3, State: api.Idle}},
		{tick(7), api.Reply{Start: 7, A: 4}},
		{of(api.ReqClock, 0), api.Reply{Start: 7, A: 4}},
		{of(api.ReqCancel, 1), api.Reply{Id: 1, State: api.Cancelled, Start: -1, End: -1, Plan: -1, A: 2, B: 3}},
		{of(api.ReqComplete, 2), api.Reply{Err: api.ErrState}},
		{of(api.ReqStop, 0), api.Reply{}},
		{of(api.ReqStop, 0), api.Reply{Err: api.ErrClosed}},
	} {
		if told := s.Do(x.r); told != x.want {
			t.Errorf("%d: %+v: %+v; want %+v", i, x.r, told, x.want)
		}
	}
}

// Fields that a kind does not have do not matter.
func TestDoOfOtherFields(t *testing.T) {
	s := made(t, 4)
	full := api.Request{Id: 1, User: 3, Width: 2, Limit: 5, Prio: 4, Held: true, Node: 2, By: 6}
	for _, x := range []struct {
		kind int
		want api.Reply
	}{
		{api.ReqSubmit, api.Reply{Id: 1, State: api.Held, Start: -1, End: -1, Plan: -1, A: 2, B: 4}},
		{api.ReqInfo, api.Reply{A: 4}}, {api.ReqLoad, api.Reply{B: 1}}, {api.ReqTick, api.Reply{Start: 6, A: 4}},
		{api.ReqDrain, api.Reply{Id: 2, State: api.Drained}}, {api.ReqClock, api.Reply{Start: 6, A: 3}},
	} {
		full.Kind = x.kind
		if told := s.Do(full); told != x.want {
			t.Errorf("%+v: %+v; want %+v", full, told, x.want)
		}
	}
}

func TestKindsThatDoNotExist(t *testing.T) {
	s := made(t, 4)
	ask(t, s, asked(2, 10, 0))
	take(t, s, 1, 5, true)
	kinds := []int{math.MinInt, -1, 0, 14, 99, 1<<32 + 1, math.MaxInt}
	for _, kind := range kinds {
		refuse(t, s, of(kind, 1), api.ErrForm)
	}
	// The wrong kind comes before the core that is closed, and after the one that is not there.
	ask(t, s, of(api.ReqStop, 0))
	for _, kind := range kinds {
		refuse(t, s, of(kind, 1), api.ErrForm)
	}
	for kind := api.ReqSubmit; kind <= api.ReqStop; kind++ {
		refuse(t, s, of(kind, 1), api.ErrClosed)
	}
}

func TestAll(t *testing.T) {
	s := made(t, 4)
	for _, l := range [][]api.Request{nil, {}} {
		if told := s.All(l...); len(told) != 0 {
			t.Fatal(told)
		}
	}
	l := []api.Request{
		asked(4, 10, 5), of(api.ReqQuery, 1), of(api.ReqQuery, 2), asked(5, 10, 5), asked(1, 2, 6), of(99, 0), tick(3), tick(0), of(api.ReqLoad, 0),
	}
	given := slices.Clone(l)
	want := []api.Reply{
		{Id: 1, State: api.Pending, Start: -1, End: -1, Plan: -1, A: 4, B: 5},
		{Id: 1, State: api.Pending, Start: -1, End: -1, Plan: -1, A: 4, B: 5},
		{Err: api.ErrNone}, {Err: api.ErrWidth},
		{Id: 2, State: api.Pending, Start: -1, End: -1, Plan: -1, A: 1, B: 6},
		{Err: api.ErrForm}, {Start: 3, A: 4}, {Err: api.ErrTime}, {A: 2},
	}
	told := s.All(l...)
	if !slices.Equal(told, want) {
		t.Fatalf("%+v; want %+v", told, want)
	}
	if !slices.Equal(l, given) {
		t.Fatal("the requests were changed")
	}
	// What follows a ReqStop is performed, too: it fails.
	if told := s.All(of(api.ReqStop, 0), of(api.ReqLoad, 0)); !slices.Equal(told, []api.Reply{{}, {Err: api.ErrClosed}}) {
		t.Fatal(told)
	}
}

func TestCommit(t *testing.T) {
	s := made(t, 4)
	take(t, s, 1, 5, false)
	ask(t, s, asked(3, 10, 0))
	ask(t, s, asked(3, 10, 0))
	ask(t, s, held(1, 10, 0))
	for _, x := range []struct {
		id   int
		at   int64
		want bool
	}{
		{1, 5, true}, {1, 5, false}, {1, 6, false}, {1, 4, true}, // a plan becomes earlier only
		{2, 4, false}, {2, 0, false}, {2, 13, false}, {2, 14, true}, // beside that of the other one
		{3, 0, false}, {0, 0, false}, {-1, 0, false}, {4, 0, false}, {math.MinInt, 0, false}, {math.MaxInt, 0, false},
		{1, -1, false}, {1, math.MinInt64, false}, {2, 1<<40 + 1, false}, {2, math.MaxInt64, false},
		{1, 0, true}, {1, 0, false}, {2, 9, false}, {2, 10, true},
	} {
		take(t, s, x.id, x.at, x.want)
	}
	if j := get(t, s, 1); j.State != api.Running || j.Start != 0 || j.End != 10 || j.Nodes != 7 || j.Plan != -1 {
		t.Fatalf("%+v", j)
	}
	if want := []api.Step{{At: 0, Free: 1}, {At: 20, Free: 4}}; !slices.Equal(s.Steps(), want) || get(t, s, 2).Plan != 10 {
		t.Fatal(s.Steps())
	}
	ask(t, s, of(api.ReqStop, 0))
	take(t, s, 2, 9, false)
	take(t, s, 2, 10, false)
}

func TestCommitOnAClosedCore(t *testing.T) {
	s := made(t, 4)
	ask(t, s, asked(1, 1, 0))
	ask(t, s, of(api.ReqStop, 0))
	take(t, s, 1, 0, false)
}

// The example of 13.1 and that of 13.2.
func TestExamples(t *testing.T) {
	s := made(t, 2)
	ask(t, s, asked(2, 10, 0))
	copied, x := s.Twin(), api.Choice{Id: 1, At: 5}
	if !s.Commit(x) || s.Commit(x) {
		t.Fatal("not just once")
	}
	if s.Items()[0].Plan != 5 || copied.Items()[0].Plan != -1 {
		t.Fatal(s.Items(), copied.Items())
	}
	ask(t, s, tick(5))
	if j := get(t, s, 1); j.State != api.Running || j.Start != 5 || j.End != 15 {
		t.Fatalf("%+v", j)
	}
}

func TestItemsOfJobs(t *testing.T) {
	if l := seq.Items(); len(l) != 0 {
		t.Fatal(l)
	}
	full := api.Job{Id: 3, User: 4, Width: 5, Limit: 6, Prio: 7, State: 8, Start: 9, End: 10, Plan: 11, Nodes: 12}
	odd := api.Job{Id: math.MinInt, Width: math.MaxInt, Limit: math.MinInt64, Plan: math.MaxInt64}
	l := []api.Job{full, {}, odd, {Id: 2, State: api.Held, Plan: -1}, full}
	given := slices.Clone(l)
	want := []api.Item{
		{Id: 3, Width: 5, Limit: 6, Plan: 11}, {}, {Id: math.MinInt, Width: math.MaxInt, Limit: math.MinInt64, Plan: math.MaxInt64},
		{Id: 2, Plan: -1}, {Id: 3, Width: 5, Limit: 6, Plan: 11},
	}
	if made := seq.Items(l...); !slices.Equal(made, want) {
		t.Fatalf("%+v; want %+v", made, want)
	}
	if !slices.Equal(l, given) {
		t.Fatal("the jobs were changed")
	}
}

func TestItemsOfAScheduler(t *testing.T) {
	s := made(t, 4)
	if len(s.Items()) != 0 {
		t.Fatal(s.Items())
	}
	for _, r := range []api.Request{
		asked(1, 10, 5), asked(2, 20, 9), asked(3, 30, 5), held(4, 40, 9), asked(1, 50, 1000), asked(1, 60, 0), asked(2, 70, 5),
	} {
		ask(t, s, r)
	}
	take(t, s, 1, 0, true) // runs
	take(t, s, 7, 500, true)
	take(t, s, 2, 90, true)
	ask(t, s, of(api.ReqCancel, 5))
	want := []api.Item{{Id: 2, Width: 2, Limit: 20, Plan: 90}, {Id: 3, Width: 3, Limit: 30, Plan: -1}, {Id: 7, Width: 2, Limit: 70, Plan: 500}, {Id: 6, Width: 1, Limit: 60, Plan: -1}}
	if !slices.Equal(s.Items(), want) {
		t.Fatalf("%+v; want %+v", s.Items(), want)
	}
	s.Items()[0] = api.Item{}
	if !slices.Equal(s.Items(), want) {
		t.Fatal("the items are not new ones")
	}
	// The one that precedes all others drops their plans, and is the first.
	ask(t, s, of(api.ReqRelease, 4))
	if l := s.Items(); len(l) != 5 || l[1] != (api.Item{Id: 4, Width: 4, Limit: 40, Plan: -1}) || l[0].Plan != 90 || l[3].Plan != -1 {
		t.Fatalf("%+v", l)
	}
	// They are told on a closed core, too.
	ask(t, s, of(api.ReqStop, 0))
	if l := s.Items(); len(l) != 5 {
		t.Fatal(l)
	}
}

func TestTwin(t *testing.T) {
	s := made(t, 4)
	s.All(asked(2, 10, 3), asked(3, 10, 2), held(1, 5, 1), at(api.ReqDrain, 3))
	take(t, s, 1, 0, true)
	take(t, s, 2, 10, true)
	twin := s.Twin()
	if twin == s || twin.Core == s.Core {
		t.Fatal("the same one")
	}
	alike(t, s, twin)
	// What is done to one of them is not seen in the other one.
	before := s.Twin()
	twin.All(asked(1, 1, 9), at(api.ReqResume, 3), of(api.ReqComplete, 1), of(api.ReqRelease, 3), tick(4), of(api.ReqStop, 0))
	alike(t, s, before)
	other := twin.Twin()
	if !other.Closed() {
		t.Fatal("a copy of a closed core is not closed")
	}
	s.All(of(api.ReqCancel, 2), tick(20))
	alike(t, twin, other)
	if s.Now() != 20 || twin.Now() != 4 || before.Now() != 0 {
		t.Fatal(s.Now(), twin.Now(), before.Now())
	}
}

// Every way in which a request can be rejected changes nothing.
func TestRejectedRequests(t *testing.T) {
	s := made(t, 4)
	s.All(asked(2, 10, 3), asked(3, 10, 2), held(1, 5, 1), asked(1, 5, 0), at(api.ReqDrain, 3))
	take(t, s, 1, 0, true)
	take(t, s, 2, 10, true)
	ask(t, s, of(api.ReqCancel, 4))
	user := asked(1, 1, 0)
	user.User = 256
	for _, x := range []struct {
		r    api.Request
		want api.Errno
	}{
		{user, api.ErrArg}, {asked(1, 1, 1001), api.ErrArg}, {asked(1, 1, -1), api.ErrArg},
		{asked(0, 1, 1000), api.ErrWidth}, {asked(5, 1, 1000), api.ErrWidth}, {asked(65, 1, 1000), api.ErrWidth},
		{asked(1, 0, 1000), api.ErrTime}, {asked(1, 1<<20+1, 1000), api.ErrTime},
		{of(api.ReqCancel, 5), api.ErrNone}, {of(api.ReqCancel, 4), api.ErrState}, {of(api.ReqComplete, 2), api.ErrState},
		{of(api.ReqComplete, 0), api.ErrNone}, {of(api.ReqHold, 1), api.ErrState}, {of(api.ReqHold, 3), api.ErrState},
		{of(api.ReqRelease, 2), api.ErrState}, {of(api.ReqRelease, -1), api.ErrNone}, {of(api.ReqQuery, 5), api.ErrNone},
		{at(api.ReqDrain, 4), api.ErrNode}, {at(api.ReqDrain, -1), api.ErrNode}, {at(api.ReqDrain, 3), api.ErrState},
		{at(api.ReqResume, 4), api.ErrNode}, {at(api.ReqResume, 0), api.ErrState},
		{tick(0), api.ErrTime}, {tick(-1), api.ErrTime}, {tick(1<<40 + 1), api.ErrTime}, {tick(math.MaxInt64), api.ErrTime},
		{api.Request{}, api.ErrForm}, {of(14, 1), api.ErrForm},
	} {
		refuse(t, s, x.r, x.want)
	}
	for s.Do(asked(1, 1, 0)).Err == api.OK {
	}
	if s.Live() != 64 {
		t.Fatal(s.Live())
	}
	refuse(t, s, asked(1, 1, 1000), api.ErrFull)
	refuse(t, s, held(1, 1, 1000), api.ErrFull)
}

// row returns a scheduler of 4 nodes on which job 3 is held and the others, but for 4, have a plan.
func row(t *testing.T) *seq.Sched {
	t.Helper()
	s := made(t, 4)
	s.All(asked(1, 10, 5), asked(2, 10, 3), held(1, 10, 3), asked(1, 30, 3), asked(1, 10, 1))
	for _, x := range []api.Choice{{Id: 1, At: 20}, {Id: 2, At: 30}, {Id: 5, At: 40}} {
		take(t, s, x.Id, x.At, true)
	}
	plans(t, s, 20, 30, -1, -1, 40)
	return s
}

// Just what the document names drops a plan, and of just the jobs that it names.
func TestWhatDropsPlans(t *testing.T) {
	for _, x := range []struct {
		r    api.Request
		want []int64
	}{
		{of(api.ReqHold, 2), []int64{20, -1, -1, -1, 40}}, {of(api.ReqCancel, 2), []int64{20, -1, -1, -1, 40}},
		{of(api.ReqHold, 4), []int64{20, 30, -1, -1, 40}}, {of(api.ReqCancel, 4), []int64{20, 30, -1, -1, 40}},
		{at(api.ReqDrain, 3), []int64{-1, -1, -1, -1, -1}},
		{of(api.ReqRelease, 3), []int64{20, 30, -1, -1, -1}}, {of(api.ReqCancel, 3), []int64{20, 30, -1, -1, 40}},
		{asked(1, 1, 6), []int64{-1, -1, -1, -1, -1, -1}}, {asked(4, 1, 5), []int64{20, -1, -1, -1, -1, -1}},
		{asked(1, 1, 4), []int64{20, -1, -1, -1, -1, -1}}, {asked(4, 1, 3), []int64{20, 30, -1, -1, -1, -1}},
		{asked(1, 1, 1), []int64{20, 30, -1, -1, 40, -1}}, {asked(4, 1<<20, 0), []int64{20, 30, -1, -1, 40, -1}},
		{held(4, 1, 1000), []int64{20, 30, -1, -1, 40, -1}},
		{of(api.ReqQuery, 2), []int64{20, 30, -1, -1, 40}}, {of(api.ReqInfo, 0), []int64{20, 30, -1, -1, 40}},
		{of(api.ReqLoad, 0), []int64{20, 30, -1, -1, 40}}, {of(api.ReqClock, 0), []int64{20, 30, -1, -1, 40}},
		{of(api.ReqStop, 0), []int64{20, 30, -1, -1, 40}},
		{tick(19), []int64{20, 30, -1, -1, 40}}, {tick(20), []int64{-1, 30, -1, -1, 40}}, {tick(39), []int64{-1, -1, -1, -1, 40}},
	} {
		s := row(t)
		ask(t, s, x.r)
		plans(t, s, x.want...)
	}
	// Draining drops plans even if no node fewer is free for them; resuming drops none.
	s := row(t)
	ask(t, s, at(api.ReqDrain, 0))
	take(t, s, 4, 1, true)
	ask(t, s, at(api.ReqResume, 0))
	plans(t, s, -1, -1, -1, 1, -1)
}

// A choice leaves the plans of all other jobs as they are, whatever the priorities.
func TestChoicesDropNoPlans(t *testing.T) {
	s := row(t)
	take(t, s, 4, 20, true)
	plans(t, s, 20, 30, -1, 20, 40)
	take(t, s, 1, 0, true)
	plans(t, s, -1, 30, -1, 20, 40)
	take(t, s, 5, 10, true)
	plans(t, s, -1, 30, -1, 20, 10)
	ask(t, s, of(api.ReqComplete, 1))
	plans(t, s, -1, 30, -1, 20, 10)
}

// A job whose plan's time comes runs, however many are run and end at that time, or before it.
func TestPlansComeTrue(t *testing.T) {
	s := made(t, 4)
	for id := 1; id <= 6; id++ {
		ask(t, s, asked(4, 10, id%3))
	}
	for i, id := range []int{2, 5, 1, 4, 3, 6} {
		s.Commit(api.Choice{Id: id, At: int64(10 * i)})
	}
	twin := s.Twin()
	ask(t, twin, tick(1000))
	for i, id := range []int{2, 5, 1, 4, 3, 6} {
		start := int64(10 * i)
		if j := get(t, s, id); j.State != api.Running || j.Start != start || j.Nodes != 15 || s.Now() != start {
			t.Fatalf("%d: %+v", s.Now(), j)
		}
		if j := get(t, twin, id); j.State != api.TimedOut || j.Start != start || j.End != start+10 {
			t.Fatalf("%+v", j)
		}
		ask(t, s, tick(10))
	}
}

// anyRequest returns some request; most of them can be performed.
func anyRequest(r *rand.Rand, s *seq.Sched) api.Request {
	x := api.Request{
		Id: s.Len() + 1 - r.Intn(14), User: r.Intn(256), Width: 1 + r.Intn(s.Size()), Limit: 1 + r.Int63n(12), Prio: r.Intn(4),
		Held: r.Intn(6) == 0, Node: r.Intn(s.Size()+2) - 1, By: r.Int63n(9),
	}
	kinds := []int{1, 1, 1, 1, 1, 2, 3, 4, 4, 5, 5, 6, 7, 8, 8, 9, 9, 9, 10, 11, 12}
	x.Kind = kinds[r.Intn(len(kinds))]
	switch r.Intn(40) {
	case 0:
		x.Kind = r.Intn(20) - 3
	case 1:
		x.Width, x.Limit, x.Prio, x.User = r.Intn(72)-2, r.Int63n(1<<21), r.Intn(1200)-20, r.Intn(300)-5
	case 2:
		x.By = 1 << r.Intn(41)
	}
	return x
}

// anyChoice returns some choice, mostly for a job that waits, and near to now.
func anyChoice(r *rand.Rand, s *seq.Sched) api.Choice {
	x := api.Choice{Id: r.Intn(s.Len() + 2), At: s.Now() + r.Int63n(40) - 2}
	if l := s.Items(); len(l) > 0 && r.Intn(8) > 0 {
		j := l[r.Intn(len(l))]
		x.Id = j.Id
		if at, e := s.Earliest(s.Now()+r.Int63n(20), j.Limit, j.Width); e == api.OK && r.Intn(2) == 0 {
			x.At = at
		}
	}
	return x
}

// parts performs a Work on a core, part by part.
func parts(c *core.Core, w *core.Work) *core.Work {
	for !w.Done() {
		w.Step(c)
	}
	return w
}

// What a scheduler does is what the Works do on a core, and what is rejected changes nothing.
func TestAnyRequestsAndChoices(t *testing.T) {
	r := rand.New(rand.NewSource(13))
	for range 120 {
		s := made(t, 1+r.Intn(10))
		for range 150 {
			before, by := s.Twin(), s.Twin()
			rejected := false
			if r.Intn(5) < 2 {
				x := anyChoice(r, s)
				ok := s.Commit(x)
				if want := parts(by.Core, core.NewCommit(x)).OK(); ok != want || ok != before.Fits(x) {
					t.Fatalf("%+v: %v; want %v", x, ok, want)
				}
				rejected = !ok
			} else {
				x := anyRequest(r, s)
				told := s.Do(x)
				want := parts(by.Core, core.NewWork(x)).Reply()
				if x.Kind < api.ReqSubmit || x.Kind > api.ReqStop {
					want = api.Reply{Err: api.ErrForm}
				}
				if told != want {
					t.Fatalf("%+v: %+v; want %+v", x, told, want)
				}
				rejected = told.Err != api.OK
			}
			alike(t, s, by)
			if rejected {
				alike(t, s, before)
			}
		}
	}
}

// All is Do of each request.
func TestAnyRequestsAtOnce(t *testing.T) {
	r := rand.New(rand.NewSource(31))
	for range 60 {
		s := made(t, 1+r.Intn(10))
		twin := s.Twin()
		for range 10 {
			var l []api.Request
			var want []api.Reply
			for range r.Intn(12) {
				l = append(l, anyRequest(r, s))
				want = append(want, twin.Do(l[len(l)-1]))
			}
			if told := s.All(l...); !slices.Equal(told, want) {
				t.Fatalf("%+v: %+v; want %+v", l, told, want)
			}
			alike(t, s, twin)
		}
	}
}

// drops reports whether a request that was performed may drop the plan that a job had; came is the job that came in by it.
func drops(x api.Request, had, came api.Job) bool {
	precedes := came.Prio > had.Prio || came.Prio == had.Prio && came.Id < had.Id
	switch x.Kind {
	case api.ReqHold, api.ReqCancel:
		return x.Id == had.Id
	case api.ReqSubmit:
		return came.State == api.Pending && precedes
	case api.ReqRelease:
		return precedes
	}
	return x.Kind == api.ReqDrain
}

// keeps fails the test if a job that had a plan lost it, or has a later one, or did not start at it.
func keeps(t *testing.T, s *seq.Sched, had api.Job) {
	t.Helper()
	switch j := get(t, s, had.Id); {
	case s.Now() < had.Plan:
		if j != had {
			t.Fatalf("now %d: %+v; before %+v", s.Now(), j, had)
		}
	case j.Start != had.Plan || j.Plan != -1 || j.End != had.Plan+had.Limit:
		t.Fatalf("now %d: %+v; before %+v", s.Now(), j, had)
	case j.State != api.Running && (j.State != api.TimedOut || j.End > s.Now()):
		t.Fatalf("now %d: %+v; before %+v", s.Now(), j, had)
	}
}

// planned returns the jobs that have a plan.
func planned(s *seq.Sched) []api.Job {
	return slices.DeleteFunc(s.In(api.Pending), func(j api.Job) bool { return j.Plan == -1 })
}

// A plan is kept, and comes true, unless one of the things happens that may drop it.
func TestAnyPlans(t *testing.T) {
	r := rand.New(rand.NewSource(134))
	kept, dropped := 0, 0
	for range 200 {
		s := made(t, 1+r.Intn(10))
		for range 150 {
			before := planned(s)
			if r.Intn(5) < 2 {
				x := anyChoice(r, s)
				ok := s.Commit(x)
				for _, had := range before {
					if !ok || had.Id != x.Id {
						keeps(t, s, had)
					} else if j := get(t, s, x.Id); x.At >= had.Plan || j.Plan != x.At && j.Start != x.At {
						t.Fatalf("%+v: %+v; before %+v", x, j, had)
					}
				}
				continue
			}
			x := anyRequest(r, s)
			told := s.Do(x)
			came, _ := s.Get(told.Id)
			for _, had := range before {
				if told.Err == api.OK && drops(x, had, came) {
					dropped++
					if j := get(t, s, had.Id); j.Plan != -1 || j.Start != -1 {
						t.Fatalf("%+v: %+v", x, j)
					}
					continue
				}
				kept++
				keeps(t, s, had)
			}
		}
	}
	if kept < 1000 || dropped < 1000 {
		t.Fatalf("only %d were kept, and %d dropped", kept, dropped)
	}
}
