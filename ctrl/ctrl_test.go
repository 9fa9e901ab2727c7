package ctrl_test

import (
	"math"
	"math/rand"
	"slices"
	"testing"

	"berthage/api"
	"berthage/core"
	"berthage/ctrl"
	"berthage/hist"
	"berthage/req"
	"berthage/rule"
	"berthage/seq"
)

// made returns a controller that New must not refuse.
func made(t *testing.T, n int) *ctrl.Ctrl {
	t.Helper()
	c, e := ctrl.New(n)
	if e != api.OK || c == nil {
		t.Fatalf("New(%d): %v, %v", n, c, e)
	}
	return c
}

// coded returns the encoding of a valid request.
func coded(t *testing.T, r api.Request) []byte {
	t.Helper()
	b, e := req.Bytes(r)
	if e != api.OK {
		t.Fatalf("%+v: %v", r, e)
	}
	return b
}

// called creates a task for bytes, which must have the next number.
func called(t *testing.T, c *ctrl.Ctrl, b []byte) int {
	t.Helper()
	n := c.Tasks()
	id, e := c.Call(b)
	if e != api.OK || id != n+1 || c.Tasks() != n+1 {
		t.Fatalf("Call(%v): %d, %v; there were %d tasks, and are %d", b, id, e, n, c.Tasks())
	}
	return id
}

// call creates a task for a valid request.
func call(t *testing.T, c *ctrl.Ctrl, r api.Request) int {
	t.Helper()
	return called(t, c, coded(t, r))
}

// sweep creates a task that is a pass, which must have the next number.
func sweep(t *testing.T, c *ctrl.Ctrl, some, depth int) int {
	t.Helper()
	n := c.Tasks()
	id, e := c.Pass(some, depth)
	if e != api.OK || id != n+1 || c.Tasks() != n+1 {
		t.Fatalf("Pass(%d, %d): %d, %v; there were %d tasks, and are %d", some, depth, id, e, n, c.Tasks())
	}
	return id
}

// steps performs so many steps of a task, which must be ready.
func steps(t *testing.T, c *ctrl.Ctrl, id, n int) {
	t.Helper()
	for i := range n {
		if !c.Do(id) {
			t.Fatalf("task %d is not ready for step %d", id, i+1)
		}
	}
}

// over performs all steps of a task that has no others beside it, and returns their number.
func over(t *testing.T, c *ctrl.Ctrl, id int) int {
	t.Helper()
	n, busy := 0, c.Busy()
	for c.Busy() == busy {
		steps(t, c, id, 1)
		if n++; n > 2000 {
			t.Fatalf("task %d does not end", id)
		}
	}
	return n
}

// ask performs requests one after the other, none of which may fail.
func ask(t *testing.T, c *ctrl.Ctrl, l ...api.Request) {
	t.Helper()
	for _, r := range l {
		id := call(t, c, r)
		over(t, c, id)
		if told, ok := c.Told(id); !ok || told.Err != api.OK {
			t.Fatalf("%+v: %+v, %v", r, told, ok)
		}
	}
}

// rest performs steps, around and around, until all tasks are over.
func rest(t *testing.T, c *ctrl.Ctrl) {
	t.Helper()
	for n := 0; c.Busy() > 0; n++ {
		if c.Pick(n) == 0 || n > 100000 {
			t.Fatalf("after %d steps %d tasks are not over", n, c.Busy())
		}
	}
}

// asked returns a valid request for a job.
func asked(width int, limit int64, prio int) api.Request {
	return api.Request{Kind: api.ReqSubmit, User: 7, Width: width, Limit: limit, Prio: prio}
}

// held returns a valid request for a held job.
func held(width int, limit int64, prio int) api.Request {
	r := asked(width, limit, prio)
	r.Held = true
	return r
}

// of returns a request for a job, or one without fields.
func of(kind, id int) api.Request {
	return api.Request{Kind: kind, Id: id}
}

// at returns a request for a node.
func at(kind, n int) api.Request {
	return api.Request{Kind: kind, Node: n}
}

// tick returns a ReqTick.
func tick(by int64) api.Request {
	return api.Request{Kind: api.ReqTick, By: by}
}

// three returns a controller of 4 nodes with jobs of 3, 3 and 1 nodes for 10: a pass lets them start at 0, 10 and 0.
func three(t *testing.T) *ctrl.Ctrl {
	t.Helper()
	c := made(t, 4)
	ask(t, c, asked(3, 10, 0), asked(3, 10, 0), asked(1, 10, 0))
	return c
}

// alike fails the test if two cores differ.
func alike(t *testing.T, a, b *core.Core) {
	t.Helper()
	if a.Closed() != b.Closed() || a.Now() != b.Now() || a.Version() != b.Version() || a.Size() != b.Size() {
		t.Fatalf("closed %v and %v, now %d and %d, version %d and %d",
			a.Closed(), b.Closed(), a.Now(), b.Now(), a.Version(), b.Version())
	}
	if !slices.Equal(a.All(), b.All()) {
		t.Fatalf("jobs %+v and %+v", a.All(), b.All())
	}
	for n := range a.Size() {
		if a.State(n) != b.State(n) {
			t.Fatalf("node %d is %d and %d", n, a.State(n), b.State(n))
		}
	}
	if !slices.Equal(a.Steps(), b.Steps()) {
		t.Fatalf("steps %v and %v", a.Steps(), b.Steps())
	}
}

// ready fails the test if not just these tasks are ready.
func ready(t *testing.T, c *ctrl.Ctrl, want ...int) {
	t.Helper()
	if got := c.Ready(); !slices.Equal(got, want) {
		t.Fatalf("ready %v; want %v", got, want)
	}
}

// noted fails the test if the events from the index from on are not these.
func noted(t *testing.T, c *ctrl.Ctrl, from int, want ...api.Event) {
	t.Helper()
	if got := c.Events()[from:]; !slices.Equal(got, want) {
		t.Fatalf("events\n%+v; want\n%+v", got, want)
	}
}

// face is what can be seen of a controller, but for its core.
type face struct {
	tasks, busy, step, events, taken int
	owners                           [3]int
}

func look(c *ctrl.Ctrl) face {
	l := c.Locks()
	return face{c.Tasks(), c.Busy(), c.Step(), len(c.Events()), l.Taken(), [3]int{l.Owner(0), l.Owner(1), l.Owner(2)}}
}

// still fails the test if what is done changes anything.
func still(t *testing.T, c *ctrl.Ctrl, done func()) {
	t.Helper()
	twin, before, l := c.Twin(), look(c), c.Ready()
	done()
	if after := look(c); after != before {
		t.Fatalf("%+v, then %+v", before, after)
	}
	ready(t, c, l...)
	alike(t, c.Core, twin)
}

// kinds returns a valid request of each kind.
func kinds() []api.Request {
	return []api.Request{
		asked(2, 10, 3), held(2, 10, 3), of(api.ReqCancel, 1), of(api.ReqHold, 1), of(api.ReqRelease, 1), of(api.ReqComplete, 1),
		of(api.ReqQuery, 1), at(api.ReqDrain, 0), at(api.ReqResume, 3), tick(5),
		of(api.ReqInfo, 0), of(api.ReqLoad, 0), of(api.ReqClock, 0), of(api.ReqStop, 0),
	}
}

// wrong returns bytes that are not a request, by their error.
func wrong(t *testing.T) map[api.Errno][][]byte {
	t.Helper()
	good := coded(t, asked(2, 10, 3))
	sum := slices.Clone(good)
	sum[len(sum)-1]++
	return map[api.Errno][][]byte{
		api.ErrShort: {nil, {}, {1}, {0xb7, 0x0a}},
		api.ErrLong:  {make([]byte, 65), make([]byte, 1000), append(slices.Clone(good), make([]byte, 60)...)},
		api.ErrForm:  {{1, 2, 3}, make([]byte, 3), make([]byte, 64), sum, good[:len(good)-1], append(slices.Clone(good), 0)},
	}
}

// Promise 20.1: New, Locks, Tasks, Busy.

func TestNew(t *testing.T) {
	for _, n := range []int{1, 2, 63, 64} {
		c := made(t, n)
		fresh, e := core.New(n)
		if e != api.OK {
			t.Fatal(n, e)
		}
		alike(t, c.Core, fresh)
		if look(c) != (face{}) || c.Stuck() || len(c.Ready()) != 0 || c.Pick(0) != 0 || !c.Locks().Idle() {
			t.Errorf("%d: %+v", n, look(c))
		}
		if len(c.Events()) != 0 || c.Now() != 0 || c.Profile.Free(0) != n {
			t.Errorf("%d: %v", n, c.Events())
		}
	}
}

func TestNewIsRefused(t *testing.T) {
	for _, n := range []int{0, -1, 65, 66, 1 << 32, 1<<32 + 1, math.MaxInt, math.MinInt} {
		_, want := core.New(n)
		if c, e := ctrl.New(n); c != nil || e != api.ErrArg || e != want {
			t.Errorf("New(%d): %v, %v", n, c, e)
		}
	}
}

// The set is the very one under which tasks proceed.
func TestLocks(t *testing.T) {
	c := made(t, 4)
	l := c.Locks()
	if l == nil || c.Locks() != l {
		t.Fatal(l)
	}
	a, b := call(t, c, of(api.ReqLoad, 0)), call(t, c, of(api.ReqInfo, 0))
	steps(t, c, a, 1)
	if l.Owner(rule.Jobs) != a || c.Locks().Taken() != 1 {
		t.Error(l.Owner(rule.Jobs), l.Taken())
	}
	if e := l.Try(rule.Nodes, 99); e != api.OK {
		t.Fatal(e)
	}
	ready(t, c, a)
	l.All(99)
	ready(t, c, a, b)
}

// The owner of a lock is the number of its task.
func TestOwners(t *testing.T) {
	c := made(t, 4)
	call(t, c, of(api.ReqStop, 0))
	a, b, p := call(t, c, of(api.ReqInfo, 0)), call(t, c, of(api.ReqClock, 0)), sweep(t, c, 1, 1)
	steps(t, c, a, 1)
	steps(t, c, b, 1)
	steps(t, c, p, 1)
	if l := c.Locks(); l.Owner(rule.Nodes) != a || l.Owner(rule.Prof) != b || l.Owner(rule.Jobs) != p {
		t.Error(look(c))
	}
}

func TestTasksAndBusy(t *testing.T) {
	c, busy := made(t, 4), 0
	for i := range 30 {
		switch i % 3 {
		case 0:
			call(t, c, of(api.ReqStop, 0))
			busy++
		case 1:
			sweep(t, c, 1, 1)
			busy++
		default:
			called(t, c, []byte{1, 2, 3})
		}
		if c.Tasks() != i+1 || c.Busy() != busy {
			t.Fatalf("%d tasks, %d busy; want %d and %d", c.Tasks(), c.Busy(), i+1, busy)
		}
	}
	// A ReqStop has two steps, a pass without jobs seven.
	for i := range 10 {
		for _, x := range [][2]int{{3*i + 1, 2}, {3*i + 2, 7}} {
			steps(t, c, x[0], x[1]-1)
			if c.Busy() != busy {
				t.Fatal(c.Busy(), busy)
			}
			steps(t, c, x[0], 1)
			if busy--; c.Busy() != busy || c.Tasks() != 30 {
				t.Fatal(c.Busy(), busy, c.Tasks())
			}
		}
	}
}

// Promise 20.1: Call.

func TestCallOfRequests(t *testing.T) {
	for _, r := range kinds() {
		c := made(t, 4)
		c.Tick()
		twin := c.Twin()
		id := call(t, c, r)
		noted(t, c, 0, api.Event{Step: 1, Kind: api.EvCall, Task: 1, Req: r})
		if id != 1 || c.Busy() != 1 || c.Step() != 1 || c.Locks().Taken() != 0 {
			t.Errorf("%+v: task %d, %+v", r, id, look(c))
		}
		if told, ok := c.Told(1); ok || told != (api.Reply{}) {
			t.Errorf("%+v: told %+v", r, told)
		}
		ready(t, c, 1)
		alike(t, c.Core, twin)
	}
}

// The chapter's example, and its like: such a task is over at once, and nothing else happens.
func TestCallOfOtherBytes(t *testing.T) {
	c := three(t)
	wait := call(t, c, of(api.ReqLoad, 0))
	for e, l := range wrong(t) {
		for _, b := range l {
			before, n, twin := look(c), len(c.Events()), c.Twin()
			id := called(t, c, b)
			want := api.Reply{Err: e}
			noted(t, c, n,
				api.Event{Step: c.Step(), Kind: api.EvCall, Task: id},
				api.Event{Step: c.Step(), Kind: api.EvTurn, Task: id, Reply: want},
				api.Event{Step: c.Step(), Kind: api.EvReply, Task: id, Reply: want})
			if told, ok := c.Told(id); !ok || told != want {
				t.Errorf("%v: told %+v, %v", b, told, ok)
			}
			before.tasks++
			before.events += 3
			if look(c) != before {
				t.Errorf("%v: %+v; want %+v", b, look(c), before)
			}
			ready(t, c, wait)
			alike(t, c.Core, twin)
			still(t, c, func() {
				if c.Do(id) {
					t.Errorf("%v: a step of a task that is over", b)
				}
			})
		}
	}
}

// Bytes are not changed, and not kept.
func TestCallLeavesBytes(t *testing.T) {
	c, r := made(t, 4), asked(2, 10, 3)
	b := coded(t, r)
	before := slices.Clone(b)
	room := append(make([]byte, 0, 100), b...)
	id := called(t, c, room)
	if !slices.Equal(room, before) || !slices.Equal(room[:100][len(b):], make([]byte, 100-len(b))) {
		t.Error(room)
	}
	clear(room)
	over(t, c, id)
	if j, e := c.Get(1); e != api.OK || j.Width != 2 || j.Limit != 10 || j.Prio != 3 || j.User != 7 {
		t.Errorf("%+v", j)
	}
}

// A request that the core rejects is a task like any other.
func TestCallOfRejectedRequests(t *testing.T) {
	for r, want := range map[api.Request]api.Errno{
		asked(0, 1, 1):                       api.ErrWidth,
		asked(5, 1, 1):                       api.ErrWidth,
		asked(1, 0, 1):                       api.ErrTime,
		asked(1, 1, 1001):                    api.ErrArg,
		of(api.ReqCancel, 9):                 api.ErrNone,
		of(api.ReqRelease, 1):                api.ErrState,
		of(api.ReqQuery, -5):                 api.ErrNone,
		at(api.ReqDrain, 4):                  api.ErrNode,
		at(api.ReqResume, 0):                 api.ErrState,
		tick(0):                              api.ErrTime,
		tick(math.MaxInt64):                  api.ErrTime,
		{Kind: api.ReqDrain, Node: 1 << 40}:  api.ErrNode,
		{Kind: api.ReqHold, Id: math.MinInt}: api.ErrNone,
	} {
		c := made(t, 4)
		ask(t, c, asked(1, 1, 1))
		twin, n := c.Twin(), len(c.Events())
		id := call(t, c, r)
		over(t, c, id)
		if told, ok := c.Told(id); !ok || told != (api.Reply{Err: want}) {
			t.Errorf("%+v: %+v, %v", r, told, ok)
		}
		if l := c.Events()[n:]; len(l) != 3 || l[2].Reply.Err != want {
			t.Errorf("%+v: %+v", r, l)
		}
		alike(t, c.Core, twin)
	}
}

// The core may be closed; the controller is not.
func TestCallOnAClosedCore(t *testing.T) {
	for _, r := range kinds() {
		c := made(t, 4)
		ask(t, c, of(api.ReqStop, 0))
		id := call(t, c, r)
		over(t, c, id)
		if told, ok := c.Told(id); !ok || told != (api.Reply{Err: api.ErrClosed}) {
			t.Errorf("%+v: %+v, %v", r, told, ok)
		}
	}
	c := made(t, 4)
	ask(t, c, asked(1, 1, 1), of(api.ReqStop, 0))
	n := len(c.Events())
	over(t, c, sweep(t, c, 1, 1))
	l := c.Events()[n:]
	if len(l) != 2 || l[0].Kind != api.EvCommit || l[0].OK || l[1].Kind != api.EvPass || l[1].OK {
		t.Errorf("%+v", l)
	}
}

// fill64 creates 64 tasks of two kinds in turn, some of them over at once beside them.
func fill64(t *testing.T, c *ctrl.Ctrl) {
	t.Helper()
	for i := range 32 {
		call(t, c, of(api.ReqStop, 0))
		called(t, c, nil)
		called(t, c, make([]byte, 65))
		sweep(t, c, 1, 1+i)
	}
	if c.Busy() != 64 || c.Tasks() != 128 {
		t.Fatal(c.Busy(), c.Tasks())
	}
}

// full fails the test if a controller creates any task.
func full(t *testing.T, c *ctrl.Ctrl) {
	t.Helper()
	still(t, c, func() {
		for _, b := range [][]byte{coded(t, of(api.ReqClock, 0)), {1, 2, 3}, nil, make([]byte, 65)} {
			if id, e := c.Call(b); id != 0 || e != api.ErrFull {
				t.Errorf("Call(%v): %d, %v", b, id, e)
			}
		}
		for _, x := range [][2]int{{1, 1}, {64, 64}, {0, 1}, {1, 65}, {-1, math.MinInt}} {
			if id, e := c.Pass(x[0], x[1]); id != 0 || e != api.ErrFull {
				t.Errorf("Pass%v: %d, %v", x, id, e)
			}
		}
		if told, ok := c.Told(c.Tasks() + 1); ok || told != (api.Reply{}) {
			t.Error(told, ok)
		}
	})
}

func TestFull(t *testing.T) {
	c := made(t, 4)
	fill64(t, c)
	full(t, c)
	// The last step of a task makes room for one, whatever it is.
	steps(t, c, 1, 1)
	full(t, c)
	steps(t, c, 1, 1)
	if id := sweep(t, c, 1, 1); id != 129 {
		t.Error(id)
	}
	full(t, c)
	steps(t, c, 129, 6)
	full(t, c)
	steps(t, c, 129, 1)
	if id := called(t, c, []byte{1, 2, 3}); id != 130 {
		t.Error(id)
	}
	if id := call(t, c, of(api.ReqClock, 0)); id != 131 {
		t.Error(id)
	}
	full(t, c)
	rest(t, c)
	if c.Tasks() != 131 || !c.Locks().Idle() || c.Stuck() {
		t.Error(look(c))
	}
	fill64(t, made(t, 1))
}

// Tasks that are over do not count, however many there are.
func TestManyTasks(t *testing.T) {
	c := made(t, 4)
	for i := range 500 {
		called(t, c, []byte{byte(i)})
		ask(t, c, of(api.ReqClock, 0))
		over(t, c, sweep(t, c, 1, 1))
	}
	if c.Tasks() != 1500 || c.Busy() != 0 {
		t.Error(c.Tasks(), c.Busy())
	}
	for id := 1; id <= 1500; id++ {
		told, ok := c.Told(id)
		want := [3]api.Reply{{}, {Err: api.ErrShort}, {A: 4}}[id%3]
		if told != want || ok != (id%3 != 0) {
			t.Fatalf("task %d: %+v, %v", id, told, ok)
		}
	}
}

// Promise 20.1: Pass.

func TestPass(t *testing.T) {
	for _, x := range [][2]int{{1, 1}, {1, 64}, {64, 1}, {64, 64}, {2, 9}} {
		c := three(t)
		before, twin := look(c), c.Twin()
		id := sweep(t, c, x[0], x[1])
		before.tasks++
		before.busy++
		if look(c) != before {
			t.Errorf("%v: %+v; want %+v", x, look(c), before)
		}
		if told, ok := c.Told(id); ok || told != (api.Reply{}) {
			t.Errorf("%v: told %+v", x, told)
		}
		ready(t, c, id)
		alike(t, c.Core, twin)
		// Seven steps for a choice that waits for nothing, and three more for its parts.
		n := min(3, x[1])
		if got, want := over(t, c, id), 6+(n+x[0]-1)/x[0]+10*n; got != want {
			t.Errorf("%v: %d steps; want %d", x, got, want)
		}
		if l := c.Of(api.EvCommit); len(l) != n {
			t.Errorf("%v: %+v", x, l)
		}
	}
}

func TestPassIsRefused(t *testing.T) {
	c := three(t)
	still(t, c, func() {
		for _, n := range []int{0, -1, 65, 1 << 32, math.MaxInt, math.MinInt} {
			for _, x := range [][2]int{{n, 1}, {1, n}, {n, n}, {n, 64}, {64, n}} {
				if id, e := c.Pass(x[0], x[1]); id != 0 || e != api.ErrArg {
					t.Errorf("Pass%v: %d, %v", x, id, e)
				}
			}
		}
	})
	if id := sweep(t, c, 1, 1); id != 4 {
		t.Error(id)
	}
}

// Promise 20.2: what a step is.

// At which steps the Turn and the reply of each request come.
func TestStepsOfARequest(t *testing.T) {
	for _, x := range []struct {
		name        string
		r           api.Request
		turn, reply int
	}{
		{"no lock", of(api.ReqStop, 0), 1, 2},
		{"one lock", of(api.ReqClock, 0), 2, 4},
		{"one lock", of(api.ReqInfo, 0), 2, 4},
		{"one lock", of(api.ReqLoad, 0), 2, 4},
		{"one lock", of(api.ReqQuery, 1), 2, 4},
		{"none found", of(api.ReqQuery, 9), 2, 4},
		{"a held job", held(1, 1, 9), 3, 6},
		{"a job behind the plans", asked(1, 1, 0), 3, 7},
		{"a job before two plans", asked(1, 1, 9), 3, 9},
		{"rejected", asked(0, 1, 9), 3, 6},
		{"a job that gets free before two plans", of(api.ReqRelease, 4), 3, 9},
		{"hold", of(api.ReqHold, 2), 3, 7},
		{"cancel", of(api.ReqCancel, 1), 4, 10},
		{"complete", of(api.ReqComplete, 1), 4, 10},
		{"a pending job cannot complete", of(api.ReqComplete, 2), 4, 8},
		{"drain", at(api.ReqDrain, 3), 4, 10},
		{"resume", at(api.ReqResume, 3), 4, 8},
		{"no time passes", tick(0), 4, 8},
		{"to a time before all ends", tick(5), 4, 8},
		{"to the time of an end and a plan", tick(10), 4, 9},
		{"beyond both plans", tick(15), 4, 10},
	} {
		t.Run(x.name, func(t *testing.T) {
			// Job 1 runs up to 10, jobs 2 and 3 have plans at 10 and 12.
			c := made(t, 4)
			ask(t, c, asked(2, 10, 0), asked(3, 2, 0), asked(3, 9, 0))
			over(t, c, sweep(t, c, 1, 64))
			ask(t, c, held(1, 1, 5))
			twin, start, n := seq.Over(c.Twin()), c.Step(), len(c.Events())
			id := call(t, c, x.r)
			want := twin.Do(x.r)
			for k := 1; k <= x.reply; k++ {
				if _, ok := c.Told(id); ok || c.Busy() != 1 || c.Step() != start+k-1 {
					t.Fatalf("before step %d: told %v, %+v", k, ok, look(c))
				}
				steps(t, c, id, 1)
			}
			noted(t, c, n,
				api.Event{Step: start, Kind: api.EvCall, Task: id, Req: x.r},
				api.Event{Step: start + x.turn, Kind: api.EvTurn, Task: id, Req: x.r},
				api.Event{Step: start + x.reply, Kind: api.EvReply, Task: id, Req: x.r, Reply: want})
			if told, ok := c.Told(id); !ok || told != want || c.Busy() != 0 || !c.Locks().Idle() {
				t.Errorf("told %+v, %v; want %+v", told, ok, want)
			}
			alike(t, c.Core, twin.Core)
			still(t, c, func() {
				if c.Do(id) {
					t.Error("a step of a task that is over")
				}
			})
		})
	}
}

// A request takes effect at its Turn, not before, and from its Turn on, not only when it is told.
func TestEffectAtTheTurn(t *testing.T) {
	c := made(t, 4)
	id := call(t, c, asked(1, 1, 1))
	steps(t, c, id, 2)
	if _, e := c.Get(1); e != api.ErrNone || len(c.Of(api.EvTurn)) != 0 {
		t.Error(e)
	}
	steps(t, c, id, 1)
	if _, e := c.Get(1); e != api.OK || len(c.Of(api.EvTurn)) != 1 || len(c.Of(api.EvReply)) != 0 {
		t.Error(e)
	}
}

// At which steps the choices of a pass are tried, and when it ends.
func TestStepsOfAPass(t *testing.T) {
	commit := func(step, id int, at int64, ok bool) api.Event {
		return api.Event{Step: step, Kind: api.EvCommit, Task: 4, Choice: api.Choice{Id: id, At: at}, OK: ok}
	}
	end := func(step int, ok bool) api.Event {
		return api.Event{Step: step, Kind: api.EvPass, Task: 4, OK: ok}
	}
	for _, x := range []struct {
		name        string
		some, depth int
		cancel      []int // after all is planned
		want        []api.Event
	}{
		{"all", 1, 64, nil, []api.Event{commit(13, 1, 0, true), commit(23, 2, 10, true), commit(33, 3, 0, true), end(39, true)}},
		{"two", 2, 2, nil, []api.Event{commit(11, 1, 0, true), commit(21, 2, 10, true), end(27, true)}},
		{"the first fails", 64, 64, []int{1}, []api.Event{commit(11, 1, 0, false), commit(18, 2, 10, true), commit(28, 3, 0, true), end(34, true)}},
		{"one is left", 64, 64, []int{1, 2}, []api.Event{commit(11, 1, 0, false), commit(18, 2, 10, false), commit(25, 3, 0, true), end(31, true)}},
		{"the last fails", 64, 64, []int{3}, []api.Event{commit(11, 1, 0, true), commit(21, 2, 10, true), commit(31, 3, 0, false), end(34, true)}},
		{"all fail", 64, 64, []int{3, 2, 1}, []api.Event{commit(11, 1, 0, false), commit(18, 2, 10, false), commit(25, 3, 0, false), end(28, false)}},
	} {
		t.Run(x.name, func(t *testing.T) {
			c := three(t)
			id, start := sweep(t, c, x.some, x.depth), c.Step()
			steps(t, c, id, 7)
			for _, job := range x.cancel {
				seq.Over(c.Core).Do(of(api.ReqCancel, job))
			}
			n, last := len(c.Events()), x.want[len(x.want)-1].Step
			steps(t, c, id, last-1-7)
			if c.Busy() != 1 {
				t.Fatal("over too early")
			}
			steps(t, c, id, 1)
			for i := range x.want {
				x.want[i].Step += start
			}
			noted(t, c, n, x.want...)
			if _, ok := c.Told(id); ok || c.Busy() != 0 || c.Step() != start+last || !c.Locks().Idle() {
				t.Errorf("told %v, %+v", ok, look(c))
			}
			still(t, c, func() {
				if c.Do(id) {
					t.Error("a step of a task that is over")
				}
			})
		})
	}
}

// A pass without choices ends, too: without jobs, and without anything to be done for them.
func TestPassWithoutChoices(t *testing.T) {
	c := made(t, 4)
	id := sweep(t, c, 1, 1)
	if n := over(t, c, id); n != 7 {
		t.Error(n)
	}
	noted(t, c, 0, api.Event{Step: 7, Kind: api.EvPass, Task: 1})
	c = three(t)
	over(t, c, sweep(t, c, 1, 64))
	n := len(c.Events())
	id = sweep(t, c, 1, 64)
	over(t, c, id)
	noted(t, c, n, api.Event{Step: c.Step(), Kind: api.EvPass, Task: id})
}

// Promise 20.2: Ready, Do, Pick, Told, Stuck.

// The chapter's example.
func TestTwoThatNeedJobs(t *testing.T) {
	for _, first := range []int{1, 2} {
		c := made(t, 4)
		call(t, c, asked(1, 1, 1))
		call(t, c, of(api.ReqQuery, 1))
		ready(t, c, 1, 2)
		steps(t, c, first, 1)
		ready(t, c, first)
		still(t, c, func() {
			if c.Do(3-first) || c.Stuck() {
				t.Error("the other one does not wait")
			}
		})
		for c.Locks().Owner(rule.Jobs) == first {
			ready(t, c, first)
			steps(t, c, first, 1)
		}
		// Tell is left, and the other one may go on before it.
		ready(t, c, 1, 2)
		steps(t, c, 3-first, 1)
		ready(t, c, 1, 2)
		steps(t, c, first, 1)
		ready(t, c, 3-first)
		rest(t, c)
		told, _ := c.Told(2)
		if want := map[int]api.Errno{1: api.OK, 2: api.ErrNone}[first]; told.Err != want {
			t.Errorf("%+v; want %v", told, want)
		}
	}
}

// A pass waits for requests, and they for it.
func TestPassesWait(t *testing.T) {
	c := three(t)
	p, load, clock := sweep(t, c, 1, 64), call(t, c, of(api.ReqLoad, 0)), call(t, c, of(api.ReqClock, 0))
	steps(t, c, load, 1)
	ready(t, c, load, clock)
	still(t, c, func() {
		if c.Do(p) {
			t.Error("the pass does not wait for Jobs")
		}
	})
	steps(t, c, load, 2)
	ready(t, c, p, load, clock)
	steps(t, c, p, 1)
	query := call(t, c, of(api.ReqQuery, 1))
	ready(t, c, p, load, clock)
	steps(t, c, p, 2)
	ready(t, c, p, load, clock, query)
	steps(t, c, clock, 1)
	ready(t, c, load, clock, query)
	steps(t, c, clock, 2)
	steps(t, c, p, 1)
	late := call(t, c, of(api.ReqClock, 0))
	ready(t, c, p, load, clock, query)
	steps(t, c, p, 2)
	ready(t, c, p, load, clock, query, late)
	// Three steps of Plan; then the first choice takes all locks.
	steps(t, c, p, 3+3)
	ready(t, c, p, load, clock)
	rest(t, c)
}

// Two passes plan the same jobs; what the first of them has taken, the other one tries in vain.
func TestTwoPasses(t *testing.T) {
	c := three(t)
	a, b := sweep(t, c, 64, 64), sweep(t, c, 64, 64)
	steps(t, c, a, 7)
	steps(t, c, b, 7)
	n := len(c.Events())
	over(t, c, b)
	over(t, c, a)
	var oks []bool
	var tasks []int
	for _, e := range c.Events()[n:] {
		oks, tasks = append(oks, e.OK), append(tasks, e.Task)
	}
	if !slices.Equal(tasks, []int{b, b, b, b, a, a, a, a}) || !slices.Equal(oks, []bool{true, true, true, true, false, false, false, false}) {
		t.Error(tasks, oks)
	}
}

func TestReadyIsNew(t *testing.T) {
	c := made(t, 4)
	for range 5 {
		call(t, c, of(api.ReqClock, 0))
	}
	l := c.Ready()
	clear(l)
	ready(t, c, 1, 2, 3, 4, 5)
	l = append(c.Ready()[:2], 9)
	ready(t, c, 1, 2, 3, 4, 5)
}

// The tasks that are ready ascend, whichever of them end first, and those that are over are gone.
func TestReadyAscends(t *testing.T) {
	c, r := made(t, 4), rand.New(rand.NewSource(202))
	for range 20 {
		var want []int
		for range 20 {
			want = append(want, call(t, c, of(api.ReqStop, 0)))
		}
		for len(want) > 0 {
			ready(t, c, want...)
			i := r.Intn(len(want))
			steps(t, c, want[i], 2)
			want = slices.Delete(want, i, i+1)
		}
		ready(t, c)
	}
}

func TestDoOfNoTask(t *testing.T) {
	c := made(t, 4)
	call(t, c, of(api.ReqStop, 0))
	called(t, c, nil)
	steps(t, c, 1, 2)
	call(t, c, of(api.ReqLoad, 0))
	sweep(t, c, 1, 1)
	still(t, c, func() {
		for _, id := range []int{0, 1, 2, 5, 6, -1, -3, 64, 65, 1<<32 + 3, math.MaxInt, math.MinInt} {
			if c.Do(id) {
				t.Errorf("Do(%d)", id)
			}
		}
	})
}

// Each step is counted, and what does not happen is not.
func TestStepsAreCounted(t *testing.T) {
	c := made(t, 4)
	a, b := call(t, c, of(api.ReqClock, 0)), call(t, c, of(api.ReqClock, 0))
	count := 0
	for i, x := range []struct {
		id int
		ok bool
	}{
		{a, true}, {b, false}, {a, true}, {b, false}, {a, true}, {b, true}, {a, true}, {a, false}, {b, true}, {b, true}, {b, true}, {b, false},
	} {
		if x.ok {
			count++
		}
		if ok := c.Do(x.id); ok != x.ok || c.Step() != count {
			t.Fatalf("Do %d: %v, and %d steps; want %v and %d", i, ok, c.Step(), x.ok, count)
		}
	}
	told := api.Reply{A: 4}
	clock := of(api.ReqClock, 0)
	noted(t, c, 0,
		api.Event{Step: 0, Kind: api.EvCall, Task: a, Req: clock},
		api.Event{Step: 0, Kind: api.EvCall, Task: b, Req: clock},
		api.Event{Step: 2, Kind: api.EvTurn, Task: a, Req: clock},
		api.Event{Step: 5, Kind: api.EvReply, Task: a, Req: clock, Reply: told},
		api.Event{Step: 6, Kind: api.EvTurn, Task: b, Req: clock},
		api.Event{Step: 8, Kind: api.EvReply, Task: b, Req: clock, Reply: told})
}

func TestPick(t *testing.T) {
	for n, want := range map[int]int{
		0: 1, 1: 2, 2: 3, 3: 4, 4: 5, 5: 1, 6: 2, 14: 5, -1: 5, -2: 4, -4: 2, -5: 1, -6: 5, -10: 1,
		math.MaxInt: 3, math.MinInt: 3, math.MinInt + 3: 1,
	} {
		c := made(t, 4)
		for range 5 {
			call(t, c, of(api.ReqStop, 0))
		}
		if id := c.Pick(n); id != want || c.Step() != 1 {
			t.Errorf("Pick(%d) is %d; want %d", n, id, want)
		}
		// The first step of a ReqStop is its Turn.
		noted(t, c, 5, api.Event{Step: 1, Kind: api.EvTurn, Task: want, Req: of(api.ReqStop, 0)})
	}
}

// The index counts those that are ready alone.
func TestPickPassesOverOthers(t *testing.T) {
	for n, want := range map[int]int{0: 3, 1: 4, 2: 6, 3: 3, -1: 6, -2: 4, -3: 3, 4: 4} {
		c := made(t, 4)
		call(t, c, of(api.ReqStop, 0))
		call(t, c, asked(1, 1, 1))
		call(t, c, of(api.ReqQuery, 1))
		call(t, c, of(api.ReqInfo, 0))
		called(t, c, []byte{1, 2, 3})
		sweep(t, c, 1, 1)
		steps(t, c, 6, 3)
		steps(t, c, 1, 2)
		steps(t, c, 3, 1)
		ready(t, c, 3, 4, 6)
		if id := c.Pick(n); id != want || c.Step() != 7 {
			t.Errorf("Pick(%d) is %d; want %d", n, id, want)
		}
	}
}

func TestPickOfNone(t *testing.T) {
	none := func(c *ctrl.Ctrl) {
		t.Helper()
		still(t, c, func() {
			for _, n := range []int{0, 1, -1, math.MaxInt, math.MinInt} {
				if id := c.Pick(n); id != 0 {
					t.Errorf("Pick(%d) is %d", n, id)
				}
			}
		})
	}
	c := made(t, 4)
	none(c)
	called(t, c, nil)
	none(c)
	ask(t, c, of(api.ReqClock, 0))
	none(c)
	call(t, c, of(api.ReqClock, 0))
	if e := c.Locks().Try(rule.Prof, 99); e != api.OK {
		t.Fatal(e)
	}
	none(c)
}

func TestTold(t *testing.T) {
	c := three(t)
	query := call(t, c, of(api.ReqQuery, 2))
	p := sweep(t, c, 1, 64)
	bad := called(t, c, []byte{1, 2, 3})
	load := call(t, c, of(api.ReqLoad, 0))
	over(t, c, query)
	over(t, c, p)
	want := map[int]api.Reply{
		1:     {Id: 1, State: api.Pending, Start: -1, End: -1, Plan: -1, A: 3},
		2:     {Id: 2, State: api.Pending, Start: -1, End: -1, Plan: -1, A: 3},
		3:     {Id: 3, State: api.Pending, Start: -1, End: -1, Plan: -1, A: 1},
		query: {Id: 2, State: api.Pending, Start: -1, End: -1, Plan: -1, A: 3},
		bad:   {Err: api.ErrForm},
	}
	for range 2 {
		for _, id := range []int{1, 2, 3, query, p, bad, load, 8, 9, 64, 0, -1, math.MaxInt, math.MinInt, 1<<32 + 1} {
			told, ok := c.Told(id)
			if x, is := want[id]; told != x || ok != is {
				t.Errorf("Told(%d): %+v, %v; want %+v", id, told, ok, x)
			}
		}
		// What is noted from outside tells nobody anything.
		c.Note(api.Event{Kind: api.EvReply, Task: load, Reply: api.Reply{A: 9}}, api.Event{Kind: api.EvReply, Task: p})
	}
	over(t, c, load)
	if told, ok := c.Told(load); !ok || told != (api.Reply{A: 1, C: 2}) {
		t.Errorf("%+v, %v", told, ok)
	}
}

// Only a lock that is held from outside can keep all tasks from going on.
func TestStuck(t *testing.T) {
	c := made(t, 4)
	l := c.Locks()
	held := func(ks ...int) {
		t.Helper()
		l.All(99)
		for _, k := range ks {
			if e := l.Try(k, 99); e != api.OK {
				t.Fatal(e)
			}
		}
	}
	is := func(want bool, ids ...int) {
		t.Helper()
		if ready(t, c, ids...); c.Stuck() != want {
			t.Fatalf("stuck %v; want %v", c.Stuck(), want)
		}
	}
	is(false)
	held(0, 1, 2)
	is(false)
	call(t, c, of(api.ReqLoad, 0))
	is(true)
	held(1, 2)
	is(false, 1)
	held(0)
	call(t, c, of(api.ReqInfo, 0))
	is(false, 2)
	held(0, 1)
	is(true)
	sweep(t, c, 1, 1)
	is(true)
	call(t, c, of(api.ReqStop, 0))
	is(false, 4)
	steps(t, c, 4, 2)
	is(true)
	called(t, c, nil)
	is(true)
	still(t, c, func() {
		for id := range 7 {
			if c.Do(id) {
				t.Errorf("Do(%d)", id)
			}
		}
	})
	held()
	is(false, 1, 2, 3)
	rest(t, c)
	is(false)
}

func TestControllersAreApart(t *testing.T) {
	a, b := made(t, 4), made(t, 4)
	call(t, a, of(api.ReqLoad, 0))
	sweep(t, a, 1, 1)
	called(t, a, nil)
	ask(t, b, asked(1, 1, 1))
	if look(b).tasks != 1 || a.Tasks() != 3 || a.Step() != 0 || len(a.All()) != 0 || a.Locks() == b.Locks() {
		t.Error(look(a), look(b))
	}
	if told, ok := a.Told(1); ok {
		t.Error(told)
	}
	rest(t, a)
	if len(b.Events()) != 3 || b.Busy() != 0 {
		t.Error(look(b))
	}
}

// A caller may take the core or the log away; the calls end nevertheless.
func TestWithoutItsParts(t *testing.T) {
	for i := range 2 {
		c := three(t)
		ids := []int{call(t, c, of(api.ReqLoad, 0)), sweep(t, c, 1, 64), call(t, c, tick(5))}
		steps(t, c, ids[1], 9)
		if i == 0 {
			c.Core = nil
		} else {
			c.Log = nil
		}
		called(t, c, []byte{1, 2, 3})
		call(t, c, asked(1, 1, 1))
		rest(t, c)
		if told, ok := c.Told(ids[0]); !ok || i == 0 && told.Err != api.ErrState {
			t.Errorf("%+v, %v", told, ok)
		}
	}
}

// Promise 20.3.

func TestNil(t *testing.T) {
	k, e := core.New(4)
	if e != api.OK {
		t.Fatal(e)
	}
	good := coded(t, of(api.ReqClock, 0))
	for _, c := range []*ctrl.Ctrl{nil, {}, {Core: k}, {Log: &hist.Log{}}, {Core: k, Log: &hist.Log{}}} {
		for _, b := range [][]byte{nil, {1}, {1, 2, 3}, make([]byte, 65), good} {
			if id, e := c.Call(b); id != 0 || e != api.ErrState {
				t.Errorf("Call(%v): %d, %v", b, id, e)
			}
		}
		for _, x := range [][2]int{{1, 1}, {64, 64}, {0, 0}, {1, 65}, {math.MinInt, math.MaxInt}} {
			if id, e := c.Pass(x[0], x[1]); id != 0 || e != api.ErrState {
				t.Errorf("Pass%v: %d, %v", x, id, e)
			}
		}
		for _, n := range []int{0, 1, -1, math.MaxInt, math.MinInt} {
			told, ok := c.Told(n)
			if c.Pick(n) != 0 || c.Do(n) || told != (api.Reply{}) || ok {
				t.Errorf("%d: %+v, %v", n, told, ok)
			}
		}
		if c.Locks() != nil || c.Tasks() != 0 || c.Busy() != 0 || len(c.Ready()) != 0 || c.Stuck() {
			t.Error(c.Locks(), c.Tasks(), c.Busy(), c.Ready(), c.Stuck())
		}
		if c != nil && len(c.Log.Events()) != 0 {
			t.Error(c.Log.Events())
		}
	}
}
