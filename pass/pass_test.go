package pass_test

import (
	"math"
	"math/rand"
	"slices"
	"testing"

	"berthage/api"
	"berthage/core"
	"berthage/job"
	"berthage/pass"
	"berthage/seq"
)

const latest = 1 << 40

// made returns a scheduler of n nodes, after these requests.
func made(t *testing.T, n int, l ...api.Request) *seq.Sched {
	t.Helper()
	s, e := seq.New(n)
	if e != api.OK || s == nil {
		t.Fatalf("New(%d): %v", n, e)
	}
	ask(t, s, l...)
	return s
}

// empty returns the schedulers that have no core.
func empty() []*seq.Sched {
	return []*seq.Sched{nil, {}, {Core: &core.Core{}}, seq.Over(nil), seq.Over(&core.Core{Jobs: job.New()})}
}

// asked returns a valid request for a job.
func asked(width int, limit int64, prio int) api.Request {
	return api.Request{Kind: api.ReqSubmit, User: 7, Width: width, Limit: limit, Prio: prio}
}

// held returns a valid request for a held job.
func held(width int, limit int64, prio int) api.Request {
	r := asked(width, limit, prio)
	r.Held = true
	return r
}

// of returns a request for a job.
func of(kind, id int) api.Request {
	return api.Request{Kind: kind, Id: id}
}

// at returns a request for a node.
func at(kind, n int) api.Request {
	return api.Request{Kind: kind, Node: n}
}

// tick returns a ReqTick.
func tick(by int64) api.Request {
	return api.Request{Kind: api.ReqTick, By: by}
}

// ask performs requests that must not fail.
func ask(t *testing.T, s *seq.Sched, l ...api.Request) {
	t.Helper()
	for _, r := range l {
		if told := s.Do(r); told.Err != api.OK {
			t.Fatalf("%+v: %+v", r, told)
		}
	}
}

// take performs a choice that must take effect.
func take(t *testing.T, s *seq.Sched, id int, at int64) {
	t.Helper()
	if !s.Commit(api.Choice{Id: id, At: at}) {
		t.Fatalf("job %d at %d does not take effect", id, at)
	}
}

// alike fails the test if the cores of two schedulers differ.
func alike(t *testing.T, a, b *seq.Sched) {
	t.Helper()
	if a.Closed() != b.Closed() || a.Now() != b.Now() || a.Version() != b.Version() || a.Size() != b.Size() {
		t.Fatalf("closed %v and %v, now %d and %d, version %d and %d",
			a.Closed(), b.Closed(), a.Now(), b.Now(), a.Version(), b.Version())
	}
	if !slices.Equal(a.Core.Jobs.All(), b.Core.Jobs.All()) {
		t.Fatalf("jobs %+v and %+v", a.Core.Jobs.All(), b.Core.Jobs.All())
	}
	for n := range a.Size() {
		if a.State(n) != b.State(n) {
			t.Fatalf("node %d is %d and %d", n, a.State(n), b.State(n))
		}
	}
	if !slices.Equal(a.Steps(), b.Steps()) {
		t.Fatalf("steps %v and %v", a.Steps(), b.Steps())
	}
}

// get returns a job.
func get(t *testing.T, s *seq.Sched, id int) api.Job {
	t.Helper()
	j, e := s.Get(id)
	if e != api.OK {
		t.Fatalf("job %d: %v", id, e)
	}
	return j
}

// plans fails the test if the jobs do not have these plans, in the order of their ids.
func plans(t *testing.T, s *seq.Sched, want ...int64) {
	t.Helper()
	var l []int64
	for _, j := range s.Core.Jobs.All() {
		l = append(l, j.Plan)
	}
	if !slices.Equal(l, want) {
		t.Fatalf("plans %v; want %v", l, want)
	}
}

// choices returns choices, given as pairs of an id and a time.
func choices(l ...int64) []api.Choice {
	var made []api.Choice
	for i := 0; i < len(l); i += 2 {
		made = append(made, api.Choice{Id: int(l[i]), At: l[i+1]})
	}
	return made
}

// same reports whether two passes have done the same.
func same(a, b pass.Told) bool {
	return slices.Equal(a.Chosen, b.Chosen) && a.Taken == b.Taken && slices.Equal(a.Started, b.Started)
}

// runs performs a pass that must do this, with all its choices taken.
func runs(t *testing.T, s *seq.Sched, depth int, chosen []api.Choice, started ...int) {
	t.Helper()
	told, e := pass.Run(s, depth)
	if want := (pass.Told{Chosen: chosen, Taken: len(chosen), Started: started}); e != api.OK || !same(told, want) {
		t.Fatalf("depth %d: %+v, %v; want %+v", depth, told, e, want)
	}
	if !slices.Equal(s.Steps(), s.Should()) {
		t.Fatalf("the profile is %v, and should be %v", s.Steps(), s.Should())
	}
}

// open fails the test if these are not the open choices, or First tells otherwise, or they change something.
func open(t *testing.T, s *seq.Sched, want ...api.Choice) {
	t.Helper()
	before := s.Twin()
	if l := pass.Open(s); !slices.Equal(l, want) {
		t.Fatalf("open: %v; want %v", l, want)
	}
	for id := -1; id <= s.Len()+2; id++ {
		first := int64(-1)
		if j, e := s.Get(id); e == api.OK && j.State == api.Pending {
			first = j.Plan
		}
		for _, x := range want {
			if x.Id == id {
				first = x.At
			}
		}
		if got := pass.First(s, id); got != first {
			t.Fatalf("first of %d: %d; want %d", id, got, first)
		}
	}
	alike(t, s, before)
}

// settles fails the test if there are not so many passes.
func settles(t *testing.T, s *seq.Sched, depth, most, want int, quiet bool) {
	t.Helper()
	if n, q := pass.Settle(s, depth, most); n != want || q != quiet {
		t.Fatalf("depth %d, at most %d: %d, %v; want %d, %v", depth, most, n, q, want, quiet)
	}
}

// three returns a scheduler of 4 nodes with pending jobs of 3, 3 and 1 nodes for 10.
func three(t *testing.T) *seq.Sched {
	t.Helper()
	return made(t, 4, asked(3, 10, 0), asked(3, 10, 0), asked(1, 10, 0))
}

// Promise 15.1.

func TestRun(t *testing.T) {
	s := three(t)
	runs(t, s, 64, choices(1, 0, 2, 10, 3, 0), 1, 3)
	plans(t, s, -1, 10, -1)
	for id, nodes := range map[int]uint64{1: 0b0111, 3: 0b1000} {
		if j := get(t, s, id); j.State != api.Running || j.Start != 0 || j.End != 10 || j.Nodes != nodes {
			t.Errorf("%+v", j)
		}
	}
	if j := get(t, s, 2); j.State != api.Pending || j.Start != -1 {
		t.Errorf("%+v", j)
	}
	if want := []api.Step{{At: 0, Free: 0}, {At: 10, Free: 1}, {At: 20, Free: 4}}; !slices.Equal(s.Steps(), want) {
		t.Errorf("%v", s.Steps())
	}
	runs(t, s, 64, nil)
	ask(t, s, tick(10))
	if j := get(t, s, 2); j.State != api.Running || j.Start != 10 || j.Nodes != 0b0111 {
		t.Errorf("%+v", j)
	}
}

// The jobs are planned, and begin, in their order, which is not that of their ids.
func TestRunInTheOrderOfTheJobs(t *testing.T) {
	s := made(t, 4, tick(5), asked(1, 10, 1), asked(2, 10, 7), asked(1, 3, 3), asked(4, 1, 2), asked(1, 2, 7), asked(1, 5, 0))
	runs(t, s, 64, choices(2, 5, 5, 5, 3, 5, 4, 15, 1, 16, 6, 7), 2, 5, 3)
	plans(t, s, 16, -1, -1, 15, -1, 7)
	if j := get(t, s, 5); j.Nodes != 0b0100 || j.Start != 5 {
		t.Errorf("%+v", j)
	}
	ask(t, s, tick(2), asked(1, 1, 1000))
	plans(t, s, -1, -1, -1, -1, -1, -1, -1)
	runs(t, s, 64, choices(7, 8, 4, 15, 1, 16))
}

// Only jobs that are pending are planned, and of these the first ones.
func TestRunWithADepth(t *testing.T) {
	l := []api.Request{held(1, 5, 9), asked(4, 5, 8), asked(1, 5, 1), asked(2, 5, 5), asked(1, 5, 1), asked(1, 5, 2)}
	want := choices(2, 0, 4, 5, 6, 5, 3, 5, 5, 10)
	for depth := 1; depth <= 64; depth++ {
		s := made(t, 4, l...)
		runs(t, s, depth, want[:min(depth, 5)], 2)
	}
	// One that has a plan already counts, too, and one that runs does not.
	s := made(t, 4, l...)
	runs(t, s, 2, want[:2], 2)
	runs(t, s, 1, nil)
	runs(t, s, 2, want[2:3])
	runs(t, s, 3, want[3:4])
	runs(t, s, 3, nil)
	ask(t, s, of(api.ReqHold, 6))
	runs(t, s, 2, nil)
	runs(t, s, 3, choices(5, 5))
	plans(t, s, -1, -1, 5, 5, 5, -1)
}

// A job that has a plan gets a choice only if it is earlier.
func TestRunWithPlans(t *testing.T) {
	s := made(t, 4, asked(2, 10, 0), asked(2, 10, 0), asked(4, 10, 0), asked(2, 10, 0))
	take(t, s, 1, 0)
	take(t, s, 2, 50)
	take(t, s, 3, 10)
	take(t, s, 4, 20)
	runs(t, s, 64, choices(2, 0), 2)
	plans(t, s, -1, -1, 10, 20)
	ask(t, s, of(api.ReqComplete, 1))
	// The third job still has to wait for the second one, and the fourth one takes its place.
	runs(t, s, 64, choices(4, 0), 4)
	plans(t, s, -1, -1, 10, -1)
	ask(t, s, of(api.ReqComplete, 2), of(api.ReqCancel, 4), tick(4))
	runs(t, s, 64, choices(3, 4), 3)
	// A plan makes room for another one in the same pass.
	s = made(t, 4, asked(4, 10, 0), asked(4, 10, 0))
	take(t, s, 1, 20)
	take(t, s, 2, 30)
	runs(t, s, 64, choices(1, 0, 2, 10), 1)
}

// What never fits has no choice, and does not keep others from having one.
func TestRunWithoutRoom(t *testing.T) {
	s := made(t, 2, asked(2, 10, 5), asked(1, 10, 0), at(api.ReqDrain, 0))
	runs(t, s, 64, choices(2, 0), 2)
	if j := get(t, s, 2); j.Nodes != 0b10 {
		t.Errorf("%+v", j)
	}
	runs(t, s, 64, nil)
	ask(t, s, at(api.ReqDrain, 1), asked(1, 1, 0))
	runs(t, s, 64, nil)
	plans(t, s, -1, -1, -1)
	ask(t, s, at(api.ReqResume, 0))
	runs(t, s, 64, choices(3, 0), 3)
	ask(t, s, at(api.ReqResume, 1))
	runs(t, s, 64, choices(1, 10))
	for _, l := range [][]api.Request{nil, {held(1, 1, 1)}, {asked(1, 1, 1), of(api.ReqCancel, 1)}} {
		runs(t, made(t, 2, l...), 1, nil)
	}
}

func TestRunAtTheLimits(t *testing.T) {
	s := made(t, 64)
	for range 64 {
		ask(t, s, asked(64, 1<<20, 1000))
	}
	var want []api.Choice
	for i := range 64 {
		want = append(want, api.Choice{Id: i + 1, At: int64(i) << 20})
	}
	runs(t, s, 64, want, 1)
	open(t, s)
	// The last plan is at MaxTime, and what would be later is none.
	s = made(t, 1, tick(latest-2), asked(1, 2, 0), asked(1, 1, 0), asked(1, 1, 0))
	runs(t, s, 64, choices(1, latest-2, 2, latest), 1)
	open(t, s)
	ask(t, s, tick(2))
	if j := get(t, s, 2); j.State != api.Running || j.Start != latest {
		t.Errorf("%+v", j)
	}
	runs(t, s, 64, nil)
	ask(t, s, of(api.ReqComplete, 2))
	runs(t, s, 64, choices(3, latest), 3)
}

func TestErrors(t *testing.T) {
	depths := []int{math.MinInt, -1, 0, 65, 66, 1 << 32, 1<<32 + 1, math.MaxInt}
	for i, s := range empty() {
		for _, depth := range append(depths, 1, 64) {
			if told, e := pass.Run(s, depth); e != api.ErrState || !same(told, pass.Told{}) {
				t.Errorf("%d: %+v, %v", i, told, e)
			}
		}
	}
	full, idle, closed := three(t), made(t, 4), three(t)
	ask(t, closed, of(api.ReqStop, 0))
	for _, s := range []*seq.Sched{full, idle, closed} {
		before := s.Twin()
		for _, depth := range depths {
			if told, e := pass.Run(s, depth); e != api.ErrArg || !same(told, pass.Told{}) {
				t.Errorf("depth %d: %+v, %v", depth, told, e)
			}
			alike(t, s, before)
		}
	}
	// A core without its profile is a core, but there is nothing to plan on.
	s := three(t)
	s.Core.Profile = nil
	if told, e := pass.Run(s, 64); e != api.ErrArg || !same(told, pass.Told{}) {
		t.Errorf("%+v, %v", told, e)
	}
	settles(t, s, 64, 3, 1, false)
	if l := pass.Open(s); len(l) != 0 || pass.First(s, 1) != -1 {
		t.Errorf("%v, %d", l, pass.First(s, 1))
	}
}

// On a closed scheduler jobs are planned, but no choice takes effect.
func TestClosed(t *testing.T) {
	s := three(t)
	take(t, s, 2, 40)
	ask(t, s, of(api.ReqStop, 0))
	before := s.Twin()
	for range 2 {
		told, e := pass.Run(s, 64)
		if want := (pass.Told{Chosen: choices(1, 0, 2, 10, 3, 0)}); e != api.OK || !same(told, want) {
			t.Fatalf("%+v, %v", told, e)
		}
		settles(t, s, 64, 5, 1, true)
		alike(t, s, before)
	}
	open(t, s, choices(1, 0, 2, 0, 3, 0)...)
}

// What a pass has told does not change by what follows, and does not change what follows.
func TestToldIsNew(t *testing.T) {
	s := three(t)
	l := pass.Open(s)
	told, _ := pass.Run(s, 64)
	l[0], told.Chosen[1], told.Started[0] = api.Choice{Id: 9, At: 9}, api.Choice{Id: 9, At: 9}, 9
	plans(t, s, -1, 10, -1)
	open(t, s)
	ask(t, s, of(api.ReqComplete, 1))
	runs(t, s, 64, choices(2, 0), 2)
	if told.Taken != 3 || told.Chosen[0] != (api.Choice{Id: 1, At: 0}) || told.Started[1] != 3 {
		t.Errorf("%+v", told)
	}
}

// Promise 15.2.

func TestSettle(t *testing.T) {
	s := three(t)
	settles(t, s, 64, 5, 2, true)
	plans(t, s, -1, 10, -1)
	settles(t, s, 64, 1, 1, true)
	ask(t, s, of(api.ReqComplete, 1))
	settles(t, s, 64, math.MaxInt, 2, true)
	if get(t, s, 2).State != api.Running {
		t.Error("it waits")
	}
	settles(t, made(t, 1), 1, 1, 1, true)
	settles(t, made(t, 1), 64, math.MaxInt, 1, true)
}

// With a depth of 1 only one job begins in each pass.
func TestSettleAtMost(t *testing.T) {
	for _, x := range []struct {
		most, want int
		quiet      bool
		running    int
	}{
		{math.MinInt, 0, false, 0}, {-1, 0, false, 0}, {0, 0, false, 0},
		{1, 1, false, 1}, {2, 2, false, 2}, {3, 3, false, 3},
		{4, 4, true, 3}, {5, 4, true, 3}, {1 << 40, 4, true, 3},
	} {
		s := made(t, 4, asked(1, 9, 0), asked(1, 9, 0), asked(1, 9, 0))
		settles(t, s, 1, x.most, x.want, x.quiet)
		if _, _, running := s.Core.Jobs.Counts(); running != x.running {
			t.Errorf("at most %d: %d are running", x.most, running)
		}
	}
	// As many passes as there may be jobs that wait, and one more.
	s := made(t, 64)
	for range 64 {
		ask(t, s, asked(1, 9, 0))
	}
	settles(t, s.Twin(), 1, 64, 64, false)
	settles(t, s, 1, math.MaxInt, 65, true)
	// What lies behind the depth does not count.
	s = three(t)
	settles(t, s, 1, 9, 3, true)
	plans(t, s, -1, 10, -1)
	open(t, s, choices(3, 0)...)
	settles(t, s, 2, 9, 2, true)
	open(t, s)
}

func TestSettleWithErrors(t *testing.T) {
	for _, depth := range []int{math.MinInt, -1, 0, 65, math.MaxInt} {
		for _, s := range append(empty(), three(t), made(t, 1)) {
			before := s.Twin()
			for _, most := range []int{1, 2, 64, math.MaxInt} {
				settles(t, s, depth, most, 1, false)
			}
			for _, most := range []int{0, -1, math.MinInt} {
				settles(t, s, depth, most, 0, false)
			}
			if before != nil {
				alike(t, s, before)
			}
		}
	}
	for _, s := range empty() {
		settles(t, s, 64, 9, 1, false)
		settles(t, s, 64, 0, 0, false)
	}
}

func TestOpen(t *testing.T) {
	// Each job is planned as if it were alone.
	s := three(t)
	open(t, s, choices(1, 0, 2, 0, 3, 0)...)
	runs(t, s, 64, choices(1, 0, 2, 10, 3, 0), 1, 3)
	open(t, s)
	if pass.First(s, 2) != 10 || pass.First(s, 1) != -1 || pass.First(s, 3) != -1 {
		t.Error(pass.First(s, 2), pass.First(s, 1))
	}
	ask(t, s, of(api.ReqComplete, 1))
	open(t, s, choices(2, 0)...)
	// In the order of the jobs, and without those that do not wait.
	s = made(t, 4, asked(3, 10, 0), asked(2, 10, 3), held(1, 10, 9), asked(1, 10, 7), asked(2, 10, 5), asked(2, 10, 7))
	take(t, s, 5, 0)
	take(t, s, 2, 10)
	ask(t, s, of(api.ReqCancel, 4), tick(4))
	open(t, s, choices(6, 4, 2, 4, 1, 20)...)
	// One whose plan is the first time, and one that never fits.
	s = made(t, 4, asked(4, 10, 5), asked(3, 10, 0), asked(1, 10, 0), at(api.ReqDrain, 0))
	take(t, s, 2, 0)
	take(t, s, 3, 10)
	open(t, s)
	ask(t, s, at(api.ReqResume, 0))
	open(t, s, choices(1, 20, 3, 0)...)
	// As many jobs as there may be.
	s = made(t, 64)
	var want []api.Choice
	for id := 1; id <= 64; id++ {
		ask(t, s, asked(id, 1, id))
		want = append(want, api.Choice{Id: 65 - id})
	}
	open(t, s, want...)
}

func TestOpenWithout(t *testing.T) {
	for i, s := range empty() {
		if l := pass.Open(s); len(l) != 0 {
			t.Errorf("%d: %v", i, l)
		}
		for _, id := range []int{math.MinInt, -1, 0, 1, math.MaxInt} {
			if at := pass.First(s, id); at != -1 {
				t.Errorf("%d: first of %d: %d", i, id, at)
			}
		}
	}
	open(t, made(t, 4))
	s := three(t)
	for _, id := range []int{math.MinInt, -1, 0, 4, 1<<32 + 1, math.MaxInt} {
		if at := pass.First(s, id); at != -1 {
			t.Errorf("first of %d: %d", id, at)
		}
	}
}

// Promises 15.3 and 15.4, and all promises.

// far is beyond all times in the following tests.
const far = 1500

// room keeps how many nodes are free at each time.
type room [far]int

// of returns the room that a scheduler has.
func (m *room) of(s *seq.Sched) *room {
	for k := range m {
		m[k] = s.Core.Profile.Free(int64(k))
	}
	return m
}

// add lets n nodes more be free from at on, for long.
func (m *room) add(at, long int64, n int) {
	for k := at; k < at+long; k++ {
		m[k] += n
	}
}

// fits reports whether so many nodes are free from at on, for long.
func (m *room) fits(at, long int64, width int) bool {
	for k := at; k < at+long; k++ {
		if m[k] < width {
			return false
		}
	}
	return true
}

// choice plans a job, and returns its choice; false if it has none.
func (m *room) choice(j api.Job, now int64) (api.Choice, bool) {
	if j.Plan >= 0 {
		m.add(j.Plan, j.Limit, j.Width)
	}
	for at := now; at+j.Limit < far && (j.Plan < 0 || at < j.Plan); at++ {
		if m.fits(at, j.Limit, j.Width) {
			m.add(at, j.Limit, -j.Width)
			return api.Choice{Id: j.Id, At: at}, true
		}
	}
	if j.Plan >= 0 {
		m.add(j.Plan, j.Limit, -j.Width)
	}
	return api.Choice{}, false
}

// expected returns what a pass must do on a scheduler that is not closed.
func expected(s *seq.Sched, depth int) pass.Told {
	m, told, l := new(room).of(s), pass.Told{}, s.Waiting()
	for _, j := range l[:min(depth, len(l))] {
		if x, ok := m.choice(j, s.Now()); ok {
			told.Chosen = append(told.Chosen, x)
			told.Taken++
			if x.At == s.Now() {
				told.Started = append(told.Started, x.Id)
			}
		}
	}
	return told
}

// expectedOpen returns what must be the open choices.
func expectedOpen(s *seq.Sched) []api.Choice {
	m, l := new(room).of(s), []api.Choice(nil)
	for _, j := range s.Waiting() {
		own := *m
		if x, ok := own.choice(j, s.Now()); ok {
			l = append(l, x)
		}
	}
	return l
}

// stir performs some request, or some choice.
func stir(r *rand.Rand, s *seq.Sched) {
	if l := s.Items(); len(l) > 0 && r.Intn(4) == 0 {
		s.Commit(api.Choice{Id: l[r.Intn(len(l))].Id, At: s.Now() + r.Int63n(60)})
		return
	}
	kinds := []int{1, 1, 1, 1, 2, 3, 4, 4, 5, 5, 7, 8, 8, 9}
	s.Do(api.Request{
		Kind: kinds[r.Intn(len(kinds))], Id: s.Len() + 1 - r.Intn(14), Width: 1 + r.Intn(s.Size()), Limit: 1 + r.Int63n(12), Prio: r.Intn(4),
		Held: r.Intn(6) == 0, Node: r.Intn(s.Size()), By: 1 + r.Int63n(6),
	})
}

// did fails the test if a scheduler is not as a pass that has done this must have left it.
func did(t *testing.T, s, before *seq.Sched, told pass.Told) {
	t.Helper()
	for _, x := range told.Chosen {
		switch j := get(t, s, x.Id); {
		case slices.Contains(told.Started, x.Id):
			if j.State != api.Running || j.Start != s.Now() || x.At != s.Now() {
				t.Fatalf("%+v: %+v", x, j)
			}
		case j.State != api.Pending || j.Plan != x.At || x.At <= s.Now():
			t.Fatalf("%+v: %+v", x, j)
		}
	}
	for _, had := range before.Core.Jobs.All() {
		chosen := slices.ContainsFunc(told.Chosen, func(x api.Choice) bool { return x.Id == had.Id })
		j := get(t, s, had.Id)
		if !chosen && j != had {
			t.Fatalf("%+v; before %+v", j, had)
		}
		// No pass makes a plan later.
		if had.Plan >= 0 && max(j.Plan, j.Start) > had.Plan {
			t.Fatalf("%+v; before %+v", j, had)
		}
	}
	if !slices.Equal(s.Steps(), s.Should()) || s.Now() != before.Now() {
		t.Fatalf("the profile is %v, and should be %v", s.Steps(), s.Should())
	}
}

func TestAnyPasses(t *testing.T) {
	r := rand.New(rand.NewSource(15))
	earlier, quiet := 0, 0
	for range 60 {
		s := made(t, 1+r.Intn(10))
		for range 60 {
			for range r.Intn(4) {
				stir(r, s)
			}
			open(t, s, expectedOpen(s)...)
			before, depth := s.Twin(), 1+r.Intn(12)
			if r.Intn(3) == 0 {
				depth = 64
			}
			want := expected(s, depth)
			told, e := pass.Run(s, depth)
			if e != api.OK || !same(told, want) {
				t.Fatalf("depth %d: %+v, %v; want %+v", depth, told, e, want)
			}
			did(t, s, before, told)
			for _, x := range told.Chosen {
				if get(t, before, x.Id).Plan >= 0 {
					earlier++
				}
			}
			if depth == 64 && told.Taken == 0 {
				open(t, s)
				quiet++
			}
		}
	}
	if earlier < 100 || quiet < 100 {
		t.Fatalf("only %d plans were made earlier, and %d passes took nothing", earlier, quiet)
	}
}

// Settle does what so many passes do.
func TestAnySettles(t *testing.T) {
	r := rand.New(rand.NewSource(152))
	ended, stopped := 0, 0
	for range 200 {
		s := made(t, 1+r.Intn(10))
		for range 12 {
			for range r.Intn(12) {
				stir(r, s)
			}
			twin, depth, most := s.Twin(), []int{1, 2, 3, 64}[r.Intn(4)], r.Intn(6)-1
			want, quiet := 0, false
			for want < most && !quiet {
				told, e := pass.Run(twin, depth)
				if e != api.OK {
					t.Fatal(e)
				}
				want, quiet = want+1, told.Taken == 0
			}
			settles(t, s, depth, most, want, quiet)
			alike(t, s, twin)
			if quiet {
				ended++
			} else {
				stopped++
			}
			if n, quiet := pass.Settle(twin, 64, math.MaxInt); n < 1 || !quiet {
				t.Fatal(n, quiet)
			}
			open(t, twin)
		}
	}
	if ended < 100 || stopped < 100 {
		t.Fatalf("only %d ended, and %d were stopped", ended, stopped)
	}
}
