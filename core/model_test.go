package core_test

import (
	"slices"
	"testing"

	"berthage/api"
	"berthage/core"
	"berthage/set"
)

// model is a core as the document's words define it. What is free at a time is counted anew each time, so that the model
// has no profile that could be wrong.
type model struct {
	size   int
	now    int64
	jobs   []api.Job // the one with the id 1 first
	used   [64]bool
	barred [64]bool
	closed bool
}

// find returns the job with this id, or nil.
func (m *model) find(id int) *api.Job {
	if id < 1 || len(m.jobs) < id {
		return nil
	}
	return &m.jobs[id-1]
}

// in returns the jobs in this state.
func (m *model) in(state int) []*api.Job {
	var l []*api.Job
	for i := range m.jobs {
		if m.jobs[i].State == state {
			l = append(l, &m.jobs[i])
		}
	}
	return l
}

// planned returns the pending jobs that have a plan.
func (m *model) planned() []*api.Job {
	return slices.DeleteFunc(m.in(api.Pending), func(j *api.Job) bool { return j.Plan == -1 })
}

// state returns the state of a node.
func (m *model) state(n int) int {
	switch {
	case n < 0 || n >= m.size:
		return 0
	case m.used[n] && m.barred[n]:
		return api.Draining
	case m.used[n]:
		return api.Busy
	case m.barred[n]:
		return api.Drained
	}
	return api.Idle
}

// count returns how many nodes are in one of these states.
func (m *model) count(states ...int) int {
	count := 0
	for n := range m.size {
		if slices.Contains(states, m.state(n)) {
			count++
		}
	}
	return count
}

// holder returns the running job that has a node, or nil.
func (m *model) holder(n int) *api.Job {
	for _, j := range m.in(api.Running) {
		if n >= 0 && n < 64 && j.Nodes>>n&1 == 1 {
			return j
		}
	}
	return nil
}

// free returns how many nodes are free at time t, leaving the plan of job but out.
func (m *model) free(t int64, but int) int {
	free := m.count(api.Idle)
	for n := range m.size {
		if j := m.holder(n); j != nil && m.state(n) == api.Busy && j.End <= t && m.now+1 <= t {
			free++
		}
	}
	for _, j := range m.planned() {
		if j.Id != but && j.Plan <= t && t < j.Plan+j.Limit {
			free -= j.Width
		}
	}
	return free
}

// steps returns the steps of the required profile.
func (m *model) steps() []api.Step {
	times := []int64{m.now}
	for i := range m.jobs {
		for _, t := range []int64{m.now + 1, m.jobs[i].End, m.jobs[i].Plan, m.jobs[i].Plan + m.jobs[i].Limit} {
			if t > m.now {
				times = append(times, t)
			}
		}
	}
	slices.Sort(times)
	var l []api.Step
	for _, t := range times {
		if free := m.free(t, 0); len(l) == 0 || l[len(l)-1].Free != free {
			l = append(l, api.Step{At: t, Free: free})
		}
	}
	return l
}

// precedes reports whether a precedes b.
func precedes(a, b *api.Job) bool {
	return a.Prio > b.Prio || a.Prio == b.Prio && a.Id < b.Id
}

// displace drops the plans of the jobs that j precedes, and returns how many.
func (m *model) displace(j *api.Job) int {
	dropped := 0
	for _, x := range m.planned() {
		if precedes(j, x) {
			x.Plan = -1
			dropped++
		}
	}
	return dropped
}

// fits reports whether a choice can take effect. It asks every single time, so that limits must be small.
func (m *model) fits(x api.Choice) bool {
	j := m.find(x.Id)
	if m.closed || j == nil || j.State != api.Pending || x.At < m.now || x.At > 1<<40 || j.Plan != -1 && x.At >= j.Plan {
		return false
	}
	for t := x.At; t < x.At+j.Limit; t++ {
		if m.free(t, j.Id) < j.Width {
			return false
		}
	}
	return true
}

// launch lets a job begin now.
func (m *model) launch(j *api.Job) {
	for n, left := 0, j.Width; left > 0; n++ {
		if m.state(n) == api.Idle {
			m.used[n] = true
			j.Nodes |= 1 << n
			left--
		}
	}
	j.State, j.Start, j.End, j.Plan = api.Running, m.now, m.now+j.Limit, -1
}

// end lets a job end now.
func (m *model) end(j *api.Job, state int) {
	if j.State == api.Running {
		for n := range m.size {
			m.used[n] = m.used[n] && j.Nodes>>n&1 == 0
		}
		j.End = m.now
	}
	j.State, j.Plan = state, -1
}

// commit performs a choice, and returns its parts.
func (m *model) commit(x api.Choice) (bool, int) {
	if !m.fits(x) {
		return false, 1
	}
	j := m.find(x.Id)
	j.Plan = x.At
	if x.At == m.now {
		m.launch(j)
	}
	return true, 4
}

// tick lets the time go on, and returns its parts.
func (m *model) tick(by int64) int {
	parts := 1
	for target := m.now + by; m.now < target; {
		m.now++
		happens := false
		for _, j := range m.in(api.Running) {
			if j.End == m.now {
				m.end(j, api.TimedOut)
				happens = true
			}
		}
		l := m.planned()
		slices.SortFunc(l, func(a, b *api.Job) int {
			if precedes(a, b) {
				return -1
			}
			return 1
		})
		for _, j := range l {
			if j.Plan == m.now {
				m.launch(j)
				happens = true
			}
		}
		if happens {
			parts++
		}
	}
	return parts
}

// told returns the reply that tells of a job.
func told(j *api.Job) api.Reply {
	return api.Reply{Id: j.Id, State: j.State, Start: j.Start, End: j.End, Plan: j.Plan, A: j.Width, B: j.Prio}
}

// failed returns the reply of an error, of one part.
func failed(e api.Errno) (api.Reply, int) {
	return api.Reply{Err: e}, 1
}

// do performs a request, and returns its reply and its parts.
func (m *model) do(r api.Request) (api.Reply, int) {
	if m.closed {
		return failed(api.ErrClosed)
	}
	switch r.Kind {
	case api.ReqSubmit:
		return m.submit(r)
	case api.ReqCancel, api.ReqComplete, api.ReqHold, api.ReqRelease, api.ReqQuery:
		if m.find(r.Id) == nil {
			return failed(api.ErrNone)
		}
		return m.doJob(r.Kind, m.find(r.Id))
	case api.ReqDrain, api.ReqResume:
		return m.doNode(r.Kind, r.Node)
	case api.ReqTick:
		if r.By < 1 || r.By > 1<<40-m.now {
			return failed(api.ErrTime)
		}
		parts := m.tick(r.By)
		return api.Reply{Start: m.now, A: m.free(m.now, 0)}, parts
	case api.ReqInfo:
		return api.Reply{A: m.count(api.Idle), B: m.count(api.Busy, api.Draining), C: m.count(api.Drained)}, 1
	case api.ReqLoad:
		return api.Reply{A: len(m.in(api.Pending)), B: len(m.in(api.Held)), C: len(m.in(api.Running))}, 1
	case api.ReqClock:
		return api.Reply{Start: m.now, A: m.free(m.now, 0)}, 1
	case api.ReqStop:
		m.closed = true
		return api.Reply{}, 1
	}
	return failed(api.ErrForm)
}

// submit performs a ReqSubmit.
func (m *model) submit(r api.Request) (api.Reply, int) {
	switch {
	case r.User < 0 || r.User > 255 || r.Prio < 0 || r.Prio > 1000:
		return failed(api.ErrArg)
	case r.Width < 1 || r.Width > m.size:
		return failed(api.ErrWidth)
	case r.Limit < 1 || r.Limit > 1<<20:
		return failed(api.ErrTime)
	case len(m.in(api.Pending))+len(m.in(api.Held))+len(m.in(api.Running)) >= 64 || len(m.jobs) >= 1024:
		return failed(api.ErrFull)
	}
	j := api.Job{
		Id: len(m.jobs) + 1, User: r.User, Width: r.Width, Limit: r.Limit, Prio: r.Prio, State: api.Pending,
		Start: -1, End: -1, Plan: -1,
	}
	if r.Held {
		j.State = api.Held
	}
	m.jobs = append(m.jobs, j)
	if r.Held {
		return told(&j), 1
	}
	return told(&j), 2 + m.displace(&j)
}

// doJob performs a request for a job.
func (m *model) doJob(kind int, j *api.Job) (api.Reply, int) {
	alive := j.State <= api.Running
	switch {
	case kind == api.ReqQuery:
		return told(j), 1
	case kind == api.ReqCancel && alive:
		m.end(j, api.Cancelled)
		return told(j), 3
	case kind == api.ReqComplete && j.State == api.Running:
		m.end(j, api.Completed)
		return told(j), 3
	case kind == api.ReqHold && j.State == api.Pending:
		j.State, j.Plan = api.Held, -1
		return told(j), 2
	case kind == api.ReqRelease && j.State == api.Held:
		j.State = api.Pending
		return told(j), 2 + m.displace(j)
	}
	return failed(api.ErrState)
}

// doNode performs a request for a node.
func (m *model) doNode(kind, n int) (api.Reply, int) {
	state, parts := m.state(n), 1
	switch barred := state == api.Draining || state == api.Drained; {
	case state == 0:
		return failed(api.ErrNode)
	case barred == (kind == api.ReqDrain):
		return failed(api.ErrState)
	}
	if kind == api.ReqDrain {
		for _, j := range m.planned() {
			j.Plan = -1
			parts++
		}
	}
	m.barred[n] = kind == api.ReqDrain
	return api.Reply{Id: n, State: m.state(n)}, parts
}

// same fails the test if a core is not as the model.
func (m *model) same(t *testing.T, c *core.Core) {
	t.Helper()
	if c.None() || c.Closed() != m.closed || c.Size() != m.size || c.Now() != m.now {
		t.Fatalf("none %v, closed %v, %d nodes, now %d; want %+v", c.None(), c.Closed(), c.Size(), c.Now(), m)
	}
	if !slices.Equal(c.All(), m.jobs) {
		t.Fatalf("jobs %+v; want %+v", c.All(), m.jobs)
	}
	for n := -2; n <= 66; n++ {
		if c.State(n) != m.state(n) {
			t.Fatalf("node %d is %d; want %d", n, c.State(n), m.state(n))
		}
		want := api.Job{}
		if j := m.holder(n); j != nil {
			want = *j
		}
		if c.Holder(n) != want {
			t.Fatalf("node %d is held by %+v; want %+v", n, c.Holder(n), want)
		}
	}
	var spans []api.Span
	for _, j := range m.planned() {
		spans = append(spans, api.Span{From: j.Plan, To: j.Plan + j.Limit, Width: j.Width})
	}
	if !slices.Equal(c.Spans(), spans) {
		t.Fatalf("spans %v; want %v", c.Spans(), spans)
	}
	if want := m.steps(); !slices.Equal(c.Steps(), want) || !slices.Equal(c.Should(), want) {
		t.Fatalf("steps %v, required %v; want %v", c.Steps(), c.Should(), want)
	}
}

// sound fails the test if running jobs have wrong nodes, or fewer than no nodes are free at some time.
func sound(t *testing.T, c *core.Core) {
	t.Helper()
	var l []set.Set
	for _, j := range c.In(api.Running) {
		s := set.Set(j.Nodes)
		if s.Len() != j.Width || s&^c.Used() != 0 {
			t.Fatalf("%+v has the nodes %v of those that are used, %v", j, s.List(), c.Used().List())
		}
		l = append(l, s)
	}
	if !set.Apart(l...) {
		t.Fatalf("nodes in common: %+v", c.In(api.Running))
	}
	for _, s := range c.Should() {
		if s.Free < 0 {
			t.Fatalf("fewer than none are free: %v", c.Should())
		}
	}
}
