package fair_test

import (
	"math"
	"math/rand"
	"slices"
	"testing"

	"berthage/api"
	"berthage/ctrl"
	"berthage/fair"
	"berthage/rule"
)

// mixed returns a request of which most are valid, on a core with a few jobs and 6 nodes.
func mixed(r *rand.Rand) api.Request {
	id, n := r.Intn(30), r.Intn(8)-1
	switch r.Intn(18) {
	case 0, 1, 2, 3, 4, 5:
		x := asked(1+r.Intn(7), int64(r.Intn(12)), r.Intn(4))
		x.Held = r.Intn(6) == 0
		return x
	case 6, 7:
		return tick(int64(r.Intn(6)))
	case 8, 9:
		return of([]int{api.ReqHold, api.ReqRelease}[r.Intn(2)], id)
	case 10, 11:
		return of([]int{api.ReqCancel, api.ReqComplete}[r.Intn(2)], id)
	case 12, 13:
		return at([]int{api.ReqDrain, api.ReqResume}[r.Intn(2)], n)
	case 14:
		return of(api.ReqQuery, id)
	default:
		return of([]int{api.ReqInfo, api.ReqLoad, api.ReqClock}[r.Intn(3)], 0)
	}
}

// tasks creates so many tasks of all sorts, the same ones in each controller.
func tasks(t *testing.T, r *rand.Rand, n int, l ...*ctrl.Ctrl) {
	t.Helper()
	for range n {
		switch some, depth, x := 1+r.Intn(5), 1+r.Intn(20), mixed(r); r.Intn(8) {
		case 0:
			for _, c := range l {
				if _, e := c.Call([]byte{byte(some), byte(depth)}); e != api.OK {
					t.Fatal(e)
				}
			}
		case 1, 2:
			for _, c := range l {
				sweep(t, c, some, depth)
			}
		default:
			for _, c := range l {
				call(t, c, x)
			}
		}
	}
}

// past is a step that was performed: by which task, and which were ready.
type past struct {
	id    int
	ready []int
}

// wait returns how many steps others have performed while a task was ready, since its own last step.
func wait(l []past, id int) int {
	n := 0
	for i := len(l) - 1; i >= 0 && l[i].id != id; i-- {
		if slices.Contains(l[i].ready, id) {
			n++
		}
	}
	return n
}

// next returns which of the ready tasks performs the next step after those of l.
func next(l []past, ready []int, bound int, wishes []int) int {
	best, worst := 0, -1
	for _, id := range ready {
		if w := wait(l, id); w > worst {
			best, worst = id, w
		}
	}
	if worst+len(ready) >= bound {
		return best
	}
	w := len(l)
	if len(wishes) > 0 {
		w = wishes[len(l)%len(wishes)]
	}
	k := len(ready)
	return ready[((w%k)+k)%k]
}

// driven drives a controller as the chapter says it, step by step.
func driven(c *ctrl.Ctrl, most, bound int, wishes []int) (fair.Told, api.Errno) {
	var told fair.Told
	var l []past
	for len(l) < most && len(c.Ready()) > 0 {
		ready := c.Ready()
		id := next(l, ready, bound, wishes)
		told.Worst = max(told.Worst, wait(l, id))
		l = append(l, past{id, ready})
		c.Do(id)
	}
	if told.Steps = len(l); c.Stuck() {
		return told, api.ErrLock
	}
	told.Quiet = c.Busy() == 0
	return told, api.OK
}

// wanted returns some wishes, at times none.
func wanted(r *rand.Rand) []int {
	l := make([]int, r.Intn(6))
	for i := range l {
		if l[i] = r.Intn(200) - 100; r.Intn(10) == 0 {
			l[i] = []int{math.MaxInt, math.MinInt}[r.Intn(2)]
		}
	}
	return l
}

// Promise 23.1, for any tasks, also if there is a lock that is held from outside.
func TestAnyDrive(t *testing.T) {
	r, quiet, lots, locked := rand.New(rand.NewSource(231)), 0, 0, 0
	for range 400 {
		c, again := made(t, 6), made(t, 6)
		for range 1 + r.Intn(6) {
			tasks(t, r, r.Intn(min(12, 65-c.Busy())), c, again)
			k, held := r.Intn(rule.Count), r.Intn(4) == 0
			if held {
				c.Locks().Try(k, outside)
				again.Locks().Try(k, outside)
			}
			most, bound, wishes := r.Intn(120)-5, 1+r.Intn(30), wanted(r)
			x, e := fair.Drive(c, most, bound, wishes...)
			if y, f := driven(again, most, bound, wishes); x != y || e != f {
				t.Fatalf("most %d, bound %d, wishes %v: %+v, %v; want %+v, %v", most, bound, wishes, x, e, y, f)
			}
			if !slices.Equal(c.Events(), again.Events()) || c.Step() != again.Step() {
				t.Fatalf("most %d, bound %d, wishes %v: other events", most, bound, wishes)
			}
			c.Locks().All(outside)
			again.Locks().All(outside)
			if x.Quiet {
				quiet++
			}
			if x.Worst >= 10 {
				lots++
			}
			if e != api.OK {
				locked++
			}
		}
	}
	if quiet < 100 || lots < 100 || locked < 100 {
		t.Errorf("%d times all were over, %d times a task had waited for long, %d times none was ready", quiet, lots, locked)
	}
}

// Promise 23.3: if nobody else holds a lock, all tasks end, whatever the bound and the wishes.
func TestNeverStuck(t *testing.T) {
	r := rand.New(rand.NewSource(233))
	for _, bound := range []int{1, 2, 10, 63, 64, 65, 100, 1000, math.MaxInt} {
		for range 12 {
			c := made(t, 6)
			for c.Busy() < api.MaxTasks {
				tasks(t, r, 1, c)
				if r.Intn(40) == 0 {
					if _, e := fair.Drive(c, r.Intn(20), bound, wanted(r)...); e != api.OK {
						t.Fatal(e)
					}
				}
			}
			before := c.Step()
			x, e := fair.Drive(c, math.MaxInt, bound, wanted(r)...)
			if e != api.OK || !x.Quiet || c.Busy() != 0 || x.Steps != c.Step()-before || !c.Locks().Idle() {
				t.Fatalf("bound %d: %+v, %v, %d tasks are not over", bound, x, e, c.Busy())
			}
		}
	}
}

// Promise 23.4, for whatever a core has become.
func TestAnyTaskAlone(t *testing.T) {
	r := rand.New(rand.NewSource(234))
	kinds, choices := map[int]int{}, 0
	for range 200 {
		c := made(t, 6)
		for range 60 {
			live, waiting := len(c.In(api.Pending, api.Held, api.Running)), len(c.In(api.Pending))
			if r.Intn(4) == 0 {
				some, n := 1+r.Intn(5), len(c.Of(api.EvCommit))
				sweep(t, c, some, 64)
				if n := alone(t, c); n > fair.Pass(some, waiting) {
					t.Fatalf("some %d of %d: %d steps; at most %d", some, waiting, n, fair.Pass(some, waiting))
				}
				choices += len(c.Of(api.EvCommit)) - n
				continue
			}
			x := mixed(r)
			call(t, c, x)
			if n := alone(t, c); n > fair.Each(x.Kind, live) {
				t.Fatalf("%+v with %d jobs: %d steps; at most %d", x, live, n, fair.Each(x.Kind, live))
			}
			if told, _ := c.Told(c.Tasks()); told.Err == api.OK {
				kinds[x.Kind]++
			}
		}
	}
	for kind := api.ReqSubmit; kind < api.ReqStop; kind++ {
		if kinds[kind] < 10 {
			t.Errorf("kind %d: %d times", kind, kinds[kind])
		}
	}
	if choices < 500 {
		t.Errorf("%d choices", choices)
	}
}
