package job_test

import (
	"math"
	"math/rand"
	"slices"
	"testing"

	"berthage/api"
	"berthage/job"
)

// asked returns a valid request for a job of so many nodes, with a limit and a priority.
func asked(width int, limit int64, prio int) api.Request {
	return api.Request{Kind: api.ReqSubmit, Width: width, Limit: limit, Prio: prio}
}

// numbers returns numbers at, around and far beyond all limits of a request, of ids and of states.
func numbers() []int {
	l := []int{math.MinInt, math.MinInt + 1, math.MinInt32, -1 << 32, -257, -256, -65, -64}
	for n := -3; n <= 70; n++ {
		l = append(l, n)
	}
	return append(l, 127, 128, 254, 255, 256, 257, 999, 1000, 1001, 1023, 1024, 1025, 1<<20-1, 1<<20, 1<<20+1,
		1<<32, 1<<32+1, 1<<32+4, 1<<40, 1<<41, math.MaxInt-1, math.MaxInt)
}

// times returns numbers at, around and far beyond all limits of times.
func times() []int64 {
	return []int64{
		math.MinInt64, math.MinInt64 + 1, -1 << 41, -1 << 40, -1 << 32, -2, -1, 0, 1, 2, 5, 15, 1 << 20, 1<<32 - 1, 1 << 32,
		1<<40 - 1, 1 << 40, 1<<40 + 1, 1<<40 + 1<<20, 1<<41 - 1, 1 << 41, 1<<41 + 1, 1<<60 - 1, 1 << 60, 1<<60 + 1, math.MaxInt64,
	}
}

// model is a table as the document's words define it: its jobs, the one with the id 1 first.
type model []api.Job

func (m *model) submit(r api.Request) (int, api.Errno) {
	if e := right(r); e != api.OK {
		return 0, e
	}
	if m.live() == 64 || len(*m) == 1024 {
		return 0, api.ErrFull
	}
	state := 1
	if r.Held {
		state = 2
	}
	id := len(*m) + 1
	*m = append(*m, api.Job{
		Id: id, User: r.User, Width: r.Width, Limit: r.Limit, Prio: r.Prio, State: state, Start: -1, End: -1, Plan: -1,
	})
	return id, api.OK
}

func right(r api.Request) api.Errno {
	if r.User < 0 || 255 < r.User || r.Prio < 0 || 1000 < r.Prio {
		return api.ErrArg
	}
	if r.Width < 1 || 64 < r.Width {
		return api.ErrWidth
	}
	if r.Limit < 1 || 1048576 < r.Limit {
		return api.ErrTime
	}
	return api.OK
}

// check returns the error of a change of a job that must be in one of these states.
func (m model) check(id int, states ...int) api.Errno {
	if id <= 0 || len(m) < id {
		return api.ErrNone
	}
	for _, s := range states {
		if m[id-1].State == s {
			return api.OK
		}
	}
	return api.ErrState
}

func (m model) hold(id int) api.Errno {
	e := m.check(id, 1)
	if e == api.OK {
		m[id-1].State, m[id-1].Plan = 2, -1
	}
	return e
}

func (m model) free(id int) api.Errno {
	e := m.check(id, 2)
	if e == api.OK {
		m[id-1].State = 1
	}
	return e
}

func (m model) plan(id int, at int64) api.Errno {
	if at < -1 || 1<<40 < at {
		return api.ErrTime
	}
	e := m.check(id, 1)
	if e == api.OK {
		m[id-1].Plan = at
	}
	return e
}

func (m model) begin(id int, at int64, nodes uint64) api.Errno {
	if at < 0 || 1<<40 < at {
		return api.ErrTime
	}
	e := m.check(id, 1)
	if e == api.OK {
		j := &m[id-1]
		j.State, j.Start, j.End, j.Plan, j.Nodes = 3, at, at+j.Limit, -1, nodes
	}
	return e
}

func (m model) finish(id, state int, at int64) api.Errno {
	if state != 4 && state != 5 && state != 6 {
		return api.ErrArg
	}
	if at < 0 || 1<<41 < at {
		return api.ErrTime
	}
	e := m.check(id, 3)
	if state == 5 {
		e = m.check(id, 1, 2, 3)
	}
	if e == api.OK {
		j := &m[id-1]
		if j.State == 3 {
			j.End = at
		}
		j.State, j.Plan = state, -1
	}
	return e
}

// in returns the jobs of the states whose bits are set.
func (m model) in(bits int) []api.Job {
	var l []api.Job
	for _, j := range m {
		if bits>>j.State%2 == 1 {
			l = append(l, j)
		}
	}
	return l
}

func (m model) live() int {
	return len(m.in(0b1110))
}

// waiting returns the pending jobs, each ahead of those that it precedes.
func (m model) waiting() []api.Job {
	var l []api.Job
	for _, j := range m.in(0b10) {
		i := len(l)
		for i > 0 && j.Prio > l[i-1].Prio {
			i--
		}
		l = slices.Insert(l, i, j)
	}
	return l
}

// same fails unless all that a table tells is the model's.
func (m model) same(t *testing.T, x *job.Table) {
	t.Helper()
	if got := x.Len(); got != len(m) {
		t.Errorf("length %d, not %d", got, len(m))
	}
	if got := x.Live(); got != m.live() {
		t.Errorf("live: %d, not %d", got, m.live())
	}
	list(t, "all", x.All(), m)
	list(t, "waiting", x.Waiting(), m.waiting())
	for bits := range 1 << 7 {
		var states []int
		for s := range 7 {
			if bits>>s%2 == 1 {
				states = append(states, s)
			}
		}
		list(t, "of states", x.In(states...), m.in(bits))
	}
	p, h, r := x.Counts()
	if p != len(m.in(0b10)) || h != len(m.in(0b100)) || r != len(m.in(0b1000)) {
		t.Errorf("counts: %d, %d, %d", p, h, r)
	}
	for _, id := range numbers() {
		m.sameJob(t, x, id)
	}
	for id := range len(m) {
		m.sameJob(t, x, id+1)
	}
}

func (m model) sameJob(t *testing.T, x *job.Table, id int) {
	t.Helper()
	want, err := api.Job{}, api.ErrNone
	if id > 0 && id <= len(m) {
		want, err = m[id-1], api.OK
	}
	if got, e := x.Get(id); got != want || e != err {
		t.Errorf("job %d: %v, %v, not %v, %v", id, got, e, want, err)
	}
}

// list fails unless two lists are the same.
func list(t *testing.T, what string, got, want []api.Job) {
	t.Helper()
	if !slices.Equal(got, want) {
		t.Errorf("%s: %v, not %v", what, got, want)
	}
}

// told fails unless an error is the one that is due.
func told(t *testing.T, what string, got, want api.Errno) {
	t.Helper()
	if got != want {
		t.Errorf("%s: %v, not %v", what, got, want)
	}
}

// submit submits a job, which must be possible.
func submit(t *testing.T, x *job.Table, r api.Request) int {
	t.Helper()
	id, e := x.Submit(r)
	if e != api.OK {
		t.Fatalf("submit %v: %v", r, e)
	}
	return id
}

// get returns a job that must exist.
func get(t *testing.T, x *job.Table, id int) api.Job {
	t.Helper()
	j, e := x.Get(id)
	if e != api.OK {
		t.Fatalf("job %d: %v", id, e)
	}
	return j
}

// six returns a table of a job of each state, whose ids are their states, and its model; the pending one has a plan.
func six(t *testing.T) (*job.Table, model) {
	t.Helper()
	x, m := job.New(), model{}
	for i := range 6 {
		r := api.Request{User: i, Width: i + 1, Limit: int64(10 * (i + 1)), Prio: 6 - i, Held: i == 1}
		id, e := x.Submit(r)
		if want, f := m.submit(r); id != want || e != f {
			t.Fatalf("job %d: %d, %v", i, id, e)
		}
	}
	told(t, "plan", x.Plan(1, 70), m.plan(1, 70))
	for id := 3; id <= 6; id++ {
		at, nodes := int64(id), uint64(1)<<id
		told(t, "begin", x.Begin(id, at, nodes), m.begin(id, at, nodes))
	}
	for id := 4; id <= 6; id++ {
		told(t, "finish", x.Finish(id, id, 9), m.finish(id, id, 9))
	}
	for i, j := range m {
		if j.State != i+1 {
			t.Fatal(m)
		}
	}
	m.same(t, x)
	return x, m
}

// Promise 8.1.

func TestRight(t *testing.T) {
	valid := asked(1, 1, 0)
	for _, n := range numbers() {
		user, prio, width, limit := valid, valid, valid, valid
		user.User, prio.Prio, width.Width, limit.Limit = n, n, n, int64(n)
		for _, c := range []struct {
			r         api.Request
			low, high int
			want      api.Errno
		}{
			{user, 0, 255, api.ErrArg}, {prio, 0, 1000, api.ErrArg}, {width, 1, 64, api.ErrWidth}, {limit, 1, 1 << 20, api.ErrTime},
		} {
			if n >= c.low && n <= c.high {
				c.want = api.OK
			}
			if got := job.Right(c.r); got != c.want {
				t.Errorf("%v: %v, not %v", c.r, got, c.want)
			}
			id, e := job.New().Submit(c.r)
			if e != c.want || e == api.OK && id != 1 || e != api.OK && id != 0 {
				t.Errorf("submit %v: %d, %v, not %v", c.r, id, e, c.want)
			}
		}
	}
}

// Of several errors the first one is told, whichever they are.
func TestRightOfSeveralErrors(t *testing.T) {
	for _, user := range []int{math.MinInt, -1, 0, 255, 256} {
		for _, prio := range []int{-1, 0, 1000, 1001, math.MaxInt} {
			for _, width := range []int{math.MinInt, -1, 0, 1, 64, 65} {
				for _, limit := range []int64{-1, 0, 1, 1 << 20, 1<<20 + 1, math.MaxInt64} {
					r := api.Request{User: user, Prio: prio, Width: width, Limit: limit}
					if got := job.Right(r); got != right(r) {
						t.Errorf("%v: %v, not %v", r, got, right(r))
					}
					if id, e := job.New().Submit(r); e != right(r) || (id == 1) != (e == api.OK) {
						t.Errorf("submit %v: %d, %v, not %v", r, id, e, right(r))
					}
				}
			}
		}
	}
}

// The document's example.
func TestErrorsOfSubmit(t *testing.T) {
	x := job.New()
	for _, c := range []struct {
		r    api.Request
		want api.Errno
	}{
		{api.Request{User: 256, Width: 0}, api.ErrArg}, {api.Request{User: 256, Width: 1, Limit: 1}, api.ErrArg},
		{api.Request{Width: 0}, api.ErrWidth}, {api.Request{Width: 64, Limit: 0}, api.ErrTime},
	} {
		if id, e := x.Submit(c.r); id != 0 || e != c.want {
			t.Errorf("%v: %d, %v", c.r, id, e)
		}
	}
	model{}.same(t, x)
}

// The other fields of a request say nothing of whether it is valid, and nothing of the job.
func TestSubmitOfOtherFields(t *testing.T) {
	r := api.Request{Kind: -1, Id: 99, User: 255, Width: 64, Limit: 1 << 20, Prio: 1000, Node: -1, By: -1}
	if e := job.Right(r); e != api.OK {
		t.Error(e)
	}
	x := job.New()
	id := submit(t, x, r)
	want := api.Job{Id: 1, User: 255, Width: 64, Limit: 1 << 20, Prio: 1000, State: 1, Start: -1, End: -1, Plan: -1}
	if got := get(t, x, id); got != want {
		t.Errorf("%v, not %v", got, want)
	}
}

func TestAlive(t *testing.T) {
	for _, n := range numbers() {
		want := n == 1 || n == 2 || n == 3
		if got := job.Alive(n); got != want {
			t.Errorf("%d: %t", n, got)
		}
	}
}

func TestNew(t *testing.T) {
	x, y := job.New(), job.New()
	model{}.same(t, x)
	submit(t, x, asked(1, 1, 1))
	if x.Len() != 1 {
		t.Errorf("length %d", x.Len())
	}
	model{}.same(t, y)
}

func TestSubmit(t *testing.T) {
	x, m := job.New(), model{}
	for i, r := range []api.Request{
		{Width: 1, Limit: 1},
		{User: 255, Width: 64, Limit: 1 << 20, Prio: 1000},
		{User: 3, Width: 4, Limit: 5, Prio: 6, Held: true},
		{User: 256, Width: 4, Limit: 5},
		{User: 3, Width: 65, Limit: 5, Held: true},
		{User: 1, Width: 2, Limit: 3, Prio: 4},
	} {
		id, e := x.Submit(r)
		if want, f := m.submit(r); id != want || e != f {
			t.Errorf("job %d: %d, %v, not %d, %v", i, id, e, want, f)
		}
		m.same(t, x)
	}
	list(t, "all", x.All(), []api.Job{
		{Id: 1, Width: 1, Limit: 1, State: 1, Start: -1, End: -1, Plan: -1},
		{Id: 2, User: 255, Width: 64, Limit: 1 << 20, Prio: 1000, State: 1, Start: -1, End: -1, Plan: -1},
		{Id: 3, User: 3, Width: 4, Limit: 5, Prio: 6, State: 2, Start: -1, End: -1, Plan: -1},
		{Id: 4, User: 1, Width: 2, Limit: 3, Prio: 4, State: 1, Start: -1, End: -1, Plan: -1},
	})
}

// No more than 64 jobs have not ended, be they pending, held or running.
func TestSubmitOfTooManyLive(t *testing.T) {
	x := job.New()
	for i := range 64 {
		r := asked(1, 1, 1)
		r.Held = i%3 == 0
		id := submit(t, x, r)
		if i%3 == 1 {
			told(t, "begin", x.Begin(id, 0, 1), api.OK)
		}
	}
	full := func(when string) {
		t.Helper()
		before := x.All()
		if id, e := x.Submit(asked(1, 1, 1)); id != 0 || e != api.ErrFull {
			t.Errorf("%s: %d, %v", when, id, e)
		}
		if id, e := x.Submit(api.Request{Held: true, Width: 1, Limit: 1}); id != 0 || e != api.ErrFull {
			t.Errorf("%s: %d, %v", when, id, e)
		}
		for _, r := range []api.Request{{User: -1}, {Width: 65}, {Width: 1}} {
			if id, e := x.Submit(r); id != 0 || e != right(r) || e == api.OK {
				t.Errorf("%s: %v: %d, %v", when, r, id, e)
			}
		}
		list(t, when, x.All(), before)
		if x.Live() != 64 {
			t.Errorf("%s: live: %d", when, x.Live())
		}
	}
	full("at first")
	for i, id := range []int{1, 2, 3} { // a held, a running and a pending one
		told(t, "finish", x.Finish(id, api.Cancelled, 1), api.OK)
		if x.Live() != 63 {
			t.Errorf("live: %d", x.Live())
		}
		if next := submit(t, x, asked(1, 1, 1)); next != 65+i {
			t.Errorf("id %d", next)
		}
		full("again")
	}
}

// No more than 1024 jobs are ever submitted, though all have ended.
func TestSubmitOfTooManyEver(t *testing.T) {
	x := job.New()
	for i := range 1024 {
		if id := submit(t, x, asked(1, 1, 1)); id != i+1 {
			t.Fatalf("id %d, not %d", id, i+1)
		}
		if i%2 == 0 {
			told(t, "begin", x.Begin(i+1, 0, 1), api.OK)
		}
		told(t, "finish", x.Finish(i+1, api.Cancelled, 1), api.OK)
	}
	for range 2 {
		if id, e := x.Submit(asked(1, 1, 1)); id != 0 || e != api.ErrFull {
			t.Errorf("%d, %v", id, e)
		}
		for _, r := range []api.Request{{User: -1}, {Width: 65}, {Width: 1}} {
			if id, e := x.Submit(r); id != 0 || e != right(r) {
				t.Errorf("%v: %d, %v", r, id, e)
			}
		}
	}
	if x.Len() != 1024 || x.Live() != 0 || get(t, x, 1024).State != api.Cancelled {
		t.Errorf("length %d, live: %d", x.Len(), x.Live())
	}
	if j, e := x.Get(1025); j != (api.Job{}) || e != api.ErrNone {
		t.Errorf("%v, %v", j, e)
	}
}

// Promise 8.2.

// The document's examples.
func TestExamples(t *testing.T) {
	x := job.New()
	submit(t, x, asked(2, 10, 3))
	told(t, "free", x.Free(1), api.ErrState)
	told(t, "finish", x.Finish(1, 3, 0), api.ErrArg)
	told(t, "begin", x.Begin(1, 5, 0b11), api.OK)
	want := api.Job{Id: 1, Width: 2, Limit: 10, Prio: 3, State: 3, Start: 5, End: 15, Plan: -1, Nodes: 0b11}
	if got := get(t, x, 1); got != want {
		t.Errorf("%v, not %v", got, want)
	}
}

func TestGetWhereThereIsNone(t *testing.T) {
	x := job.New()
	for n := range 3 {
		for _, id := range numbers() {
			j, e := x.Get(id)
			if id >= 1 && id <= n {
				if j.Id != id || e != api.OK {
					t.Errorf("job %d of %d: %v, %v", id, n, j, e)
				}
			} else if j != (api.Job{}) || e != api.ErrNone {
				t.Errorf("job %d of %d: %v, %v", id, n, j, e)
			}
		}
		submit(t, x, asked(1, 1, 1))
	}
}

// Each change of a job of each state, and of jobs that do not exist.
func TestHoldAndFree(t *testing.T) {
	for _, id := range numbers() {
		x, m := six(t)
		told(t, "hold", x.Hold(id), m.hold(id))
		list(t, "held", x.All(), m)
		x, m = six(t)
		told(t, "free", x.Free(id), m.free(id))
		list(t, "freed", x.All(), m)
	}
}

// A job that was held has lost its plan for good.
func TestHoldDropsThePlan(t *testing.T) {
	x := job.New()
	submit(t, x, asked(1, 10, 0))
	told(t, "plan", x.Plan(1, 7), api.OK)
	if j := get(t, x, 1); j.Plan != 7 || j.State != api.Pending || j.Start != -1 || j.End != -1 {
		t.Errorf("planned: %v", j)
	}
	told(t, "hold", x.Hold(1), api.OK)
	told(t, "hold", x.Hold(1), api.ErrState)
	told(t, "plan", x.Plan(1, 8), api.ErrState)
	if j := get(t, x, 1); j.Plan != -1 || j.State != api.Held {
		t.Errorf("held: %v", j)
	}
	told(t, "free", x.Free(1), api.OK)
	told(t, "free", x.Free(1), api.ErrState)
	if j := get(t, x, 1); j.Plan != -1 || j.State != api.Pending {
		t.Errorf("freed: %v", j)
	}
	told(t, "plan", x.Plan(1, 9), api.OK)
	if j := get(t, x, 1); j.Plan != 9 {
		t.Errorf("planned again: %v", j)
	}
}

func TestPlan(t *testing.T) {
	x, m := six(t)
	for _, at := range times() {
		for id := -1; id <= 8; id++ {
			told(t, "plan", x.Plan(id, at), m.plan(id, at))
			list(t, "planned", x.All(), m)
		}
	}
	told(t, "no plan", x.Plan(1, -1), api.OK)
	if j := get(t, x, 1); j.Plan != -1 || j.State != api.Pending {
		t.Errorf("%v", j)
	}
	told(t, "a plan at 0", x.Plan(1, 0), api.OK)
	if j := get(t, x, 1); j.Plan != 0 {
		t.Errorf("%v", j)
	}
}

func TestBegin(t *testing.T) {
	for _, at := range times() {
		for id := -1; id <= 8; id++ {
			x, m := six(t)
			for _, nodes := range []uint64{math.MaxUint64, 0} { // the second time it runs
				told(t, "begin", x.Begin(id, at, nodes), m.begin(id, at, nodes))
				list(t, "begun", x.All(), m)
			}
		}
	}
}

// The latest begin of the longest job has an end beyond the greatest time.
func TestBeginAtTheLastTime(t *testing.T) {
	x := job.New()
	submit(t, x, asked(64, 1<<20, 0))
	told(t, "plan", x.Plan(1, 1<<40), api.OK)
	told(t, "begin", x.Begin(1, 1<<40, math.MaxUint64), api.OK)
	want := api.Job{
		Id: 1, Width: 64, Limit: 1 << 20, State: 3, Start: 1 << 40, End: 1<<40 + 1<<20, Plan: -1, Nodes: math.MaxUint64,
	}
	if got := get(t, x, 1); got != want {
		t.Errorf("%v, not %v", got, want)
	}
	told(t, "finish", x.Finish(1, api.TimedOut, want.End), api.OK)
	want.State = api.TimedOut
	if got := get(t, x, 1); got != want {
		t.Errorf("%v, not %v", got, want)
	}
}

func TestFinish(t *testing.T) {
	for _, state := range []int{math.MinInt, -4, -1, 0, 1, 2, 3, 4, 5, 6, 7, 8, 1<<32 + 4, math.MaxInt} {
		for _, at := range times() {
			x, m := six(t)
			for _, id := range []int{math.MinInt, -1, 0, 1, 2, 3, 4, 5, 6, 7, math.MaxInt} {
				told(t, "finish", x.Finish(id, state, at), m.finish(id, state, at))
				list(t, "finished", x.All(), m)
			}
		}
	}
}

// A job that never ran has no end; one that did keeps its start and its nodes.
func TestFinishedJobs(t *testing.T) {
	for state := api.Completed; state <= api.TimedOut; state++ {
		x := job.New()
		submit(t, x, asked(1, 10, 0))
		submit(t, x, api.Request{Width: 1, Limit: 10, Held: true})
		submit(t, x, asked(3, 10, 0))
		told(t, "plan", x.Plan(1, 20), api.OK)
		told(t, "begin", x.Begin(3, 5, 0b111), api.OK)
		wait := api.ErrState
		if state == api.Cancelled {
			wait = api.OK
		}
		told(t, "pending", x.Finish(1, state, 8), wait)
		told(t, "held", x.Finish(2, state, 8), wait)
		told(t, "running", x.Finish(3, state, 8), api.OK)
		a, b, c := get(t, x, 1), get(t, x, 2), get(t, x, 3)
		if want := (api.Job{Id: 3, Width: 3, Limit: 10, State: state, Start: 5, End: 8, Plan: -1, Nodes: 0b111}); c != want {
			t.Errorf("%v, not %v", c, want)
		}
		if state != api.Cancelled {
			if a.State != api.Pending || a.Plan != 20 || b.State != api.Held {
				t.Errorf("changed: %v, %v", a, b)
			}
			continue
		}
		if want := (api.Job{Id: 1, Width: 1, Limit: 10, State: 5, Start: -1, End: -1, Plan: -1}); a != want {
			t.Errorf("%v, not %v", a, want)
		}
		if want := (api.Job{Id: 2, Width: 1, Limit: 10, State: 5, Start: -1, End: -1, Plan: -1}); b != want {
			t.Errorf("%v, not %v", b, want)
		}
	}
}

// Of several errors the first one is told: that of the arguments, then ErrNone, then ErrState.
func TestOrderOfErrors(t *testing.T) {
	x, m := six(t)
	for _, id := range []int{0, 7, 4} { // two that do not exist, and one that has ended
		last := api.ErrNone
		if id == 4 {
			last = api.ErrState
		}
		told(t, "hold", x.Hold(id), last)
		told(t, "free", x.Free(id), last)
		told(t, "plan at -2", x.Plan(id, -2), api.ErrTime)
		told(t, "plan at -1", x.Plan(id, -1), last)
		told(t, "begin at -1", x.Begin(id, -1, 1), api.ErrTime)
		told(t, "begin at 0", x.Begin(id, 0, 1), last)
		told(t, "finish as 3 at -1", x.Finish(id, 3, -1), api.ErrArg)
		told(t, "finish as 7 at 0", x.Finish(id, 7, 0), api.ErrArg)
		told(t, "finish as 4 at -1", x.Finish(id, 4, -1), api.ErrTime)
		told(t, "finish as 5 at 0", x.Finish(id, 5, 0), last)
	}
	m.same(t, x)
}

// Promise 8.3.

func TestLists(t *testing.T) {
	x, m := six(t)
	list(t, "of no state", x.In(), nil)
	list(t, "of states that do not exist", x.In(math.MinInt, -1, 0, 7, 8, math.MaxInt), nil)
	list(t, "of a state, told twice", x.In(3, 3), m[2:3])
	list(t, "of states, the last one first", x.In(6, 9, 4, 2), []api.Job{m[1], m[3], m[5]})
	list(t, "of all states", x.In(6, 5, 4, 3, 2, 1), m)
	list(t, "all", x.All(), m)
	if p, h, r := x.Counts(); p != 1 || h != 1 || r != 1 || x.Live() != 3 || x.Len() != 6 {
		t.Errorf("counts: %d, %d, %d; live: %d of %d", p, h, r, x.Live(), x.Len())
	}
}

// Pending, held and running jobs are counted apart.
func TestCounts(t *testing.T) {
	x := job.New()
	for i := range 9 {
		submit(t, x, api.Request{Width: 1, Limit: 1, Held: i < 3})
	}
	told(t, "begin", x.Begin(9, 0, 1), api.OK)
	if p, h, r := x.Counts(); p != 5 || h != 3 || r != 1 || x.Live() != 9 {
		t.Errorf("counts: %d, %d, %d; live: %d", p, h, r, x.Live())
	}
	told(t, "finish", x.Finish(9, api.Completed, 1), api.OK)
	if p, h, r := x.Counts(); p != 5 || h != 3 || r != 0 || x.Live() != 8 || x.Len() != 9 {
		t.Errorf("counts: %d, %d, %d; live: %d", p, h, r, x.Live())
	}
}

// The highest priority comes first, and of jobs whose priority is the same the lowest id.
func TestWaiting(t *testing.T) {
	x := job.New()
	for _, prio := range []int{5, 0, 5, 1000, 0, 7, 1000} {
		submit(t, x, asked(1, 1, prio))
	}
	told(t, "hold", x.Hold(6), api.OK)
	ids := func(want ...int) {
		t.Helper()
		var got []int
		for _, j := range x.Waiting() {
			got = append(got, j.Id)
		}
		if !slices.Equal(got, want) {
			t.Errorf("%v, not %v", got, want)
		}
	}
	ids(4, 7, 1, 3, 2, 5)
	told(t, "begin", x.Begin(7, 0, 1), api.OK)
	told(t, "finish", x.Finish(1, api.Cancelled, 0), api.OK)
	told(t, "free", x.Free(6), api.OK)
	ids(4, 6, 3, 2, 5)
	list(t, "all", x.In(1), []api.Job{get(t, x, 2), get(t, x, 3), get(t, x, 4), get(t, x, 5), get(t, x, 6)})
}

// What is done to a copy is not done to what it was copied from, and the other way round.
func TestCopy(t *testing.T) {
	for range 2 {
		x, m := six(t)
		y, n := x.Copy(), slices.Clone(m)
		z := y.Copy()
		n.same(t, y)
		id, e := y.Submit(asked(1, 1, 1))
		if want, f := n.submit(asked(1, 1, 1)); id != want || e != f {
			t.Errorf("%d, %v", id, e)
		}
		told(t, "plan", y.Plan(1, 99), n.plan(1, 99))
		told(t, "free", y.Free(2), n.free(2))
		told(t, "finish", y.Finish(3, 4, 9), n.finish(3, 4, 9))
		m.same(t, x)
		m.same(t, z)
		n.same(t, y)
		told(t, "hold", x.Hold(1), m.hold(1))
		id, e = x.Submit(asked(2, 2, 2))
		if want, f := m.submit(asked(2, 2, 2)); id != want || e != f {
			t.Errorf("%d, %v", id, e)
		}
		m.same(t, x)
		n.same(t, y)
	}
}

// A copy of a table without jobs takes jobs.
func TestCopyOfNone(t *testing.T) {
	x := job.New()
	y := x.Copy()
	model{}.same(t, y)
	submit(t, y, asked(1, 1, 1))
	model{}.same(t, x)
	if y.Len() != 1 || y.Copy().Len() != 1 {
		t.Errorf("length %d", y.Len())
	}
}

// Lists that were returned are neither changed by what is done later, nor a way to change a table.
func TestListsAreApart(t *testing.T) {
	x, m := six(t)
	told(t, "free", x.Free(2), m.free(2))
	lists := func() [][]api.Job { return [][]api.Job{x.All(), x.In(1, 2, 3, 4, 5, 6), x.In(1), x.Waiting(), x.All()} }
	before, kept := lists(), lists()
	for i, l := range lists() {
		list(t, "told again", l, kept[i])
		clear(l[:cap(l)])
	}
	m.same(t, x)
	for i, l := range before {
		list(t, "told before", l, kept[i])
	}
	told(t, "plan", x.Plan(1, 1), m.plan(1, 1))
	told(t, "begin", x.Begin(2, 1, 1), m.begin(2, 1, 1))
	id, e := x.Submit(asked(1, 1, 1))
	if want, f := m.submit(asked(1, 1, 1)); id != want || e != f {
		t.Errorf("%d, %v", id, e)
	}
	for i, l := range before {
		list(t, "kept", l, kept[i])
	}
	m.same(t, x)
	states := []int{3, 1, 2}
	x.In(states[:2]...)
	if !slices.Equal(states, []int{3, 1, 2}) {
		t.Errorf("changed to %v", states)
	}
}

// A job that was returned is one's own.
func TestJobsAreApart(t *testing.T) {
	x, m := six(t)
	j := get(t, x, 1)
	told(t, "plan", x.Plan(1, 3), m.plan(1, 3))
	if j.Plan != 70 {
		t.Errorf("%v", j)
	}
	j.State = api.TimedOut
	m.same(t, x)
}

// Promise 8.4.

func TestNoTable(t *testing.T) {
	var zero job.Table
	for _, x := range []*job.Table{nil, {}, &zero, new(job.Table)} {
		for range 2 { // the second time after all that might have made a table of it
			nothing(t, x)
		}
	}
}

// nothing fails unless a table answers as one that New did not return, the wrong arguments too.
func nothing(t *testing.T, x *job.Table) {
	t.Helper()
	for _, r := range []api.Request{asked(1, 1, 1), {}, {User: -1}, {Width: 1}, {Width: 1, Limit: 1, Held: true}} {
		if id, e := x.Submit(r); id != 0 || e != api.ErrState {
			t.Errorf("submit %v: %d, %v", r, id, e)
		}
	}
	for _, id := range []int{math.MinInt, -1, 0, 1, 2, math.MaxInt} {
		if j, e := x.Get(id); j != (api.Job{}) || e != api.ErrState {
			t.Errorf("job %d: %v, %v", id, j, e)
		}
		told(t, "hold", x.Hold(id), api.ErrState)
		told(t, "free", x.Free(id), api.ErrState)
		for _, at := range times() {
			told(t, "plan", x.Plan(id, at), api.ErrState)
			told(t, "begin", x.Begin(id, at, 1), api.ErrState)
			told(t, "finish", x.Finish(id, api.Cancelled, at), api.ErrState)
			told(t, "finish", x.Finish(id, int(at), at), api.ErrState)
		}
	}
	for _, l := range [][]api.Job{x.All(), x.In(), x.In(0, 1, 2, 3, 4, 5, 6), x.Waiting()} {
		if len(l) != 0 {
			t.Errorf("%v", l)
		}
	}
	if p, h, r := x.Counts(); p != 0 || h != 0 || r != 0 || x.Len() != 0 || x.Live() != 0 {
		t.Errorf("counts: %d, %d, %d; live: %d of %d", p, h, r, x.Live(), x.Len())
	}
	if y := x.Copy(); y != nil {
		t.Errorf("a copy: %v", y)
	}
}

// Promise 8.5.

func TestEndedJobsStay(t *testing.T) {
	x, m := six(t)
	for id := 4; id <= 6; id++ {
		told(t, "hold", x.Hold(id), api.ErrState)
		told(t, "free", x.Free(id), api.ErrState)
		told(t, "plan", x.Plan(id, 5), api.ErrState)
		told(t, "plan", x.Plan(id, -1), api.ErrState)
		told(t, "begin", x.Begin(id, 5, 1), api.ErrState)
		for state := api.Completed; state <= api.TimedOut; state++ {
			told(t, "finish", x.Finish(id, state, 5), api.ErrState)
		}
		list(t, "all", x.All(), m)
	}
}

// Whatever is done to a table, it is the model's; and a job that has ended is from then on as it was.
func TestAnyChanges(t *testing.T) {
	r := rand.New(rand.NewSource(8))
	for range 40 {
		x, m := job.New(), model{}
		ended := map[int]api.Job{}
		for step := range 600 {
			change(t, r, x, &m)
			list(t, "all", x.All(), m)
			if step%100 == 99 {
				m.same(t, x)
			}
			for id, j := range ended {
				if get(t, x, id) != j {
					t.Fatalf("job %d: %v, not %v", id, get(t, x, id), j)
				}
			}
			for _, j := range x.In(4, 5, 6) {
				ended[j.Id] = j
			}
			if t.Failed() {
				t.FailNow()
			}
		}
	}
}

// change does one thing to a table and to its model, and fails unless both answer the same.
func change(t *testing.T, r *rand.Rand, x *job.Table, m *model) {
	t.Helper()
	at := times()[r.Intn(len(times()))]
	if r.Intn(3) > 0 {
		at = r.Int63n(1000)
	}
	id, nodes := r.Intn(len(*m)+3)-1, r.Uint64()
	switch r.Intn(7) {
	case 0, 1:
		ask := api.Request{User: r.Intn(257), Width: r.Intn(66), Limit: r.Int63n(9), Prio: r.Intn(1002), Held: r.Intn(4) == 0}
		got, e := x.Submit(ask)
		if want, f := m.submit(ask); got != want || e != f {
			t.Errorf("submit %v: %d, %v, not %d, %v", ask, got, e, want, f)
		}
	case 2:
		told(t, "hold", x.Hold(id), m.hold(id))
	case 3:
		told(t, "free", x.Free(id), m.free(id))
	case 4:
		told(t, "plan", x.Plan(id, at), m.plan(id, at))
	case 5:
		told(t, "begin", x.Begin(id, at, nodes), m.begin(id, at, nodes))
	default:
		state := 3 + r.Intn(5)
		told(t, "finish", x.Finish(id, state, at), m.finish(id, state, at))
	}
}
