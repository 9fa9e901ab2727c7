package audit_test

import (
	"math/rand"
	"slices"
	"testing"

	"berthage/api"
	"berthage/audit"
	"berthage/core"
	"berthage/pass"
	"berthage/seq"
)

// far is later than anything that happens in these tests.
const far = 400

// mixed returns a request of which most are valid, on a core with a few jobs and up to 6 nodes.
func mixed(r *rand.Rand) api.Request {
	id, n := r.Intn(30), r.Intn(8)-1
	switch r.Intn(18) {
	case 0, 1, 2, 3, 4, 5:
		x := asked(1+r.Intn(6), int64(r.Intn(12)), r.Intn(4))
		x.Held = r.Intn(6) == 0
		return x
	case 6, 7:
		return tick(int64(r.Intn(6)))
	case 8, 9:
		return of([]int{api.ReqHold, api.ReqRelease}[r.Intn(2)], id)
	case 10, 11:
		return of([]int{api.ReqCancel, api.ReqComplete}[r.Intn(2)], id)
	case 12, 13:
		return at(api.ReqDrain, n)
	case 14, 15:
		return at(api.ReqResume, n)
	case 16:
		return of(r.Intn(20)-3, id)
	default:
		return of([]int{api.ReqQuery, api.ReqInfo, api.ReqLoad, api.ReqClock}[r.Intn(4)], id)
	}
}

// work returns a Work of a request, or of a choice.
func work(r *rand.Rand, c *core.Core) *core.Work {
	if r.Intn(3) > 0 {
		// Stopping is left to the end.
		if x := mixed(r); x.Kind != api.ReqStop {
			return core.NewWork(x)
		}
	}
	x := api.Choice{Id: r.Intn(30), At: c.Now() + int64(r.Intn(20)-1)}
	if l := c.Waiting(); len(l) > 0 && r.Intn(4) > 0 {
		x.Id = l[r.Intn(len(l))].Id
	}
	return core.NewCommit(x)
}

// lived returns a core that was changed only by Works, each performed completely.
func lived(t *testing.T, r *rand.Rand, size, works int) *core.Core {
	t.Helper()
	c := made(t, size)
	for range works {
		for w := work(r, c); !w.Step(c); {
		}
	}
	return c
}

// sound fails the test if a core has violations, or more nodes are taken than there are.
func sound(t *testing.T, c *core.Core) {
	t.Helper()
	if x := audit.Check(c); !x.OK() || x != (audit.Told{}) {
		t.Fatalf("%+v: %+v", x, c.All())
	}
	for at := c.Now(); at < far; at++ {
		if taken, room := audit.Taken(c, at), audit.Room(c, at); taken > room {
			t.Fatalf("at %d: %d of %d are taken: %+v", at, taken, room, c.All())
		}
	}
}

// Promise 22.3.
func TestAnyWorks(t *testing.T) {
	r, plans, running, drained := rand.New(rand.NewSource(223)), 0, 0, 0
	for range 60 {
		c := made(t, 1+r.Intn(6))
		for range r.Intn(120) {
			for w := work(r, c); !w.Step(c); {
				// In between there may be violations, and they can be asked for.
				audit.Check(c)
				audit.Taken(c, c.Now())
				audit.Room(c, c.Now())
			}
			sound(t, c)
			plans += len(c.Spans())
			running += len(c.In(api.Running))
			_, _, n := c.Nodes.Counts()
			drained += n
		}
		ask(t, c, of(api.ReqStop, 0))
		sound(t, c)
	}
	if plans < 500 || running < 500 || drained < 500 {
		t.Errorf("%d plans, %d jobs running, %d nodes drained", plans, running, drained)
	}
}

// Passes are choices one after the other.
func TestAnyPasses(t *testing.T) {
	r := rand.New(rand.NewSource(224))
	for range 40 {
		s := seq.Over(made(t, 1+r.Intn(6)))
		for range r.Intn(60) {
			s.Do(mixed(r))
			if r.Intn(3) == 0 {
				pass.Run(s, 1+r.Intn(8))
			}
			sound(t, s.Core)
		}
	}
}

// spoil changes the parts of a core in some way.
func spoil(r *rand.Rand, c *core.Core) {
	id, n := 1+r.Intn(12), r.Intn(7)
	at := max(0, c.Now()+int64(r.Intn(20)-8))
	switch r.Intn(13) {
	case 0:
		c.Hold(id)
	case 1:
		c.Jobs.Free(id)
	case 2, 3:
		c.Jobs.Plan(id, at)
	case 4, 5:
		c.Begin(id, at, uint64(r.Intn(256))&uint64(r.Intn(256)))
	case 6:
		c.Finish(id, 3+r.Intn(4), at)
	case 7:
		c.Take(1 + r.Intn(2))
	case 8:
		c.Give(c.Used() & 0b10101)
	case 9:
		c.Drain(n)
	case 10:
		c.Resume(n)
	case 11:
		c.Add(at, at+int64(r.Intn(10)), r.Intn(5)-2)
	case 12:
		c.Profile.Advance(c.Now() + int64(r.Intn(4)))
	}
}

// holders returns how many running jobs have each node, existing or not.
func holders(c *core.Core) [api.MaxNodes]int {
	var l [api.MaxNodes]int
	for _, j := range c.In(api.Running) {
		for n := range l {
			l[n] += int(j.Nodes >> n & 1)
		}
	}
	return l
}

// required returns how many nodes must be free at a time from now on.
func required(c *core.Core, at int64) int {
	free := 0
	for n := range c.Size() {
		if c.State(n) == api.Idle {
			free++
		}
		for _, j := range c.In(api.Running) {
			if c.State(n) == api.Busy && j.Nodes>>n&1 == 1 && j.End <= at && at > c.Now() {
				free++
			}
		}
	}
	for _, j := range c.In(api.Pending) {
		if j.Plan >= 0 && j.Plan <= at && at < j.Plan+j.Limit {
			free -= j.Width
		}
	}
	return free
}

// wrong reports whether a job has times that it must not have.
func wrong(j api.Job, now int64) bool {
	none := j.Start == -1 && j.End == -1
	switch j.State {
	case api.Pending:
		return !none || j.Plan != -1 && j.Plan <= now
	case api.Held:
		return !none || j.Plan != -1
	case api.Running:
		return j.Start < 0 || j.Start > now || j.End != j.Start+j.Limit || j.End <= now || j.Plan != -1
	}
	return j.Plan != -1 || j.Start != -1 && (j.End < j.Start || j.End > now)
}

// violations returns those of a core, asked node by node and time by time.
func violations(c *core.Core) audit.Told {
	var x audit.Told
	for n, jobs := range holders(c) {
		x.Nodes = x.Nodes || jobs > 1 || jobs == 1 && n >= c.Size()
		used := c.State(n) == api.Busy || c.State(n) == api.Draining
		x.Used = x.Used || used != (jobs > 0)
	}
	for _, j := range c.All() {
		has := 0
		for n := range api.MaxNodes {
			has += int(j.Nodes >> n & 1)
		}
		x.Width = x.Width || j.State == api.Running && has != j.Width
		x.Times = x.Times || wrong(j, c.Now())
	}
	for at := c.Now(); at < far; at++ {
		x.Profile = x.Profile || c.Profile.Free(at) != required(c, at)
		x.Room = x.Room || required(c, at) < 0
	}
	return x
}

// taken returns how many nodes are taken at a time.
func taken(c *core.Core, at int64) int {
	sum := 0
	for _, j := range c.All() {
		if j.State == api.Running && j.Start <= at && at < j.End {
			sum += j.Width
		}
		if j.State == api.Pending && j.Plan != -1 && j.Plan <= at && at < j.Plan+j.Limit {
			sum += j.Width
		}
	}
	return sum
}

// room returns how many nodes there are at a time.
func room(c *core.Core, at int64) int {
	sum := 0
	for n := range c.Size() {
		later := slices.ContainsFunc(c.In(api.Running), func(j api.Job) bool { return j.Nodes>>n&1 == 1 && j.End > at })
		if s := c.State(n); s == api.Idle || s == api.Busy || s == api.Draining && later {
			sum++
		}
	}
	return sum
}

// Promises 22.1 and 22.2, for cores of which anything may be wrong.
func TestAnyCore(t *testing.T) {
	r := rand.New(rand.NewSource(221))
	var seen [6]int
	good := 0
	for range 3000 {
		c := lived(t, r, 1+r.Intn(6), r.Intn(40))
		before := c.Twin()
		for range r.Intn(8) {
			spoil(r, c)
		}
		x, want := audit.Check(c), violations(c)
		if x != want || x.OK() != (want == audit.Told{}) {
			t.Fatalf("%+v, %v; want %+v: %+v, %v, now %d", x, x.OK(), want, c.All(), c.Steps(), c.Now())
		}
		for i, v := range []bool{x.Nodes, x.Used, x.Profile, x.Width, x.Times, x.Room} {
			if v {
				seen[i]++
			}
		}
		if x.OK() {
			good++
		}
		if c.Now() > far-50 {
			t.Fatalf("now %d", c.Now())
		}
		for at := int64(-2); at < c.Now()+30; at++ {
			counts(t, c, at, taken(c, at), room(c, at))
		}
		if audit.Same(c, before) != alike(c, before) || audit.Same(before, c) != alike(c, before) || !audit.Same(c, c.Twin()) {
			t.Fatal("same")
		}
	}
	if slices.Min(seen[:]) < 100 || good < 500 {
		t.Errorf("violations %v, %d times none", seen, good)
	}
}

// alike reports whether two cores that are not closed are alike in all that can be asked of them.
func alike(a, b *core.Core) bool {
	if a.Len() != b.Len() || a.Size() != b.Size() || a.Now() != b.Now() {
		return false
	}
	for i := range a.Len() {
		x, _ := a.Get(i + 1)
		y, _ := b.Get(i + 1)
		if x != y {
			return false
		}
	}
	for n := range api.MaxNodes {
		if a.State(n) != b.State(n) {
			return false
		}
	}
	for at := a.Now(); at < far; at++ {
		if a.Profile.Free(at) != b.Profile.Free(at) {
			return false
		}
	}
	return true
}
