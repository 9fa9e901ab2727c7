package ctrl_test

import (
	"math/rand"
	"slices"
	"testing"

	"berthage/api"
	"berthage/ctrl"
	"berthage/hist"
	"berthage/pass"
	"berthage/seq"
)

// mixed returns a request of which most are valid, on a core with a few jobs and 6 nodes.
func mixed(r *rand.Rand) api.Request {
	id, n := r.Intn(30), r.Intn(8)-1
	switch r.Intn(18) {
	case 0, 1, 2, 3, 4, 5:
		x := asked(1+r.Intn(7), int64(r.Intn(12)), r.Intn(4))
		x.Held = r.Intn(6) == 0
		return x
	case 6, 7:
		return tick(int64(r.Intn(6)))
	case 8, 9:
		return of([]int{api.ReqHold, api.ReqRelease}[r.Intn(2)], id)
	case 10, 11:
		return of([]int{api.ReqCancel, api.ReqComplete}[r.Intn(2)], id)
	case 12:
		return at(api.ReqDrain, n)
	case 13, 14:
		return at(api.ReqResume, n)
	case 15:
		return of(api.ReqQuery, id)
	default:
		return of([]int{api.ReqInfo, api.ReqLoad, api.ReqClock}[r.Intn(3)], 0)
	}
}

// bytes returns the encoding of a request, or, now and then, other bytes.
func bytes(t *testing.T, r *rand.Rand) []byte {
	t.Helper()
	b := coded(t, mixed(r))
	switch r.Intn(20) {
	case 0:
		b[r.Intn(len(b))] ^= byte(1 + r.Intn(255))
	case 1:
		b = b[:r.Intn(len(b))]
	case 2:
		b = append(b, make([]byte, r.Intn(70))...)
	}
	return b
}

// witness follows a controller, and performs what took effect at once, in the order in which it did.
type witness struct {
	c     *ctrl.Ctrl
	s     *seq.Sched
	seen  int // events
	due   map[int]api.Reply
	told  map[int]api.Reply
	tried map[int]int // choices of a pass that took effect
	ended map[int]bool
	fails int
}

func follow(t *testing.T, c *ctrl.Ctrl) *witness {
	t.Helper()
	s, e := seq.New(c.Size())
	if e != api.OK {
		t.Fatal(e)
	}
	return &witness{c: c, s: s, due: map[int]api.Reply{}, told: map[int]api.Reply{}, tried: map[int]int{}, ended: map[int]bool{}}
}

// look performs what has been noted since the last look, and fails the test if something else has come of it.
func (w *witness) look(t *testing.T) {
	t.Helper()
	c, l := w.c, w.c.Events()
	for _, e := range l[w.seen:] {
		if e.Step != c.Step() || e.Task < 1 || e.Task > c.Tasks() {
			t.Fatalf("in step %d, with %d tasks: %+v", c.Step(), c.Tasks(), e)
		}
		w.event(t, e)
	}
	w.seen = len(l)
	if c.Stuck() || (c.Busy() > 0) != (len(c.Ready()) > 0) {
		t.Fatalf("stuck: %d tasks are not over", c.Busy())
	}
	if len(w.told)+len(w.ended)+c.Busy() != c.Tasks() {
		t.Fatalf("%d requests and %d passes are over, %d tasks are not, of %d", len(w.told), len(w.ended), c.Busy(), c.Tasks())
	}
	if c.Locks().Idle() && (!slices.Equal(c.Steps(), c.Should()) || slices.ContainsFunc(c.Steps(), negative)) {
		t.Fatal(c.Steps(), c.Should())
	}
}

// negative reports whether more nodes are taken than there are.
func negative(s api.Step) bool {
	return s.Free < 0
}

// event performs what an event says.
func (w *witness) event(t *testing.T, e api.Event) {
	t.Helper()
	switch e.Kind {
	case api.EvTurn:
		if w.due[e.Task] = e.Reply; e.Req.Kind != 0 {
			w.due[e.Task] = w.s.Do(e.Req)
		}
	case api.EvReply:
		told, ok := w.c.Told(e.Task)
		if _, twice := w.told[e.Task]; twice || !ok || told != e.Reply || told != w.due[e.Task] {
			t.Fatalf("%+v is told %+v, %v; want %+v", e, told, ok, w.due[e.Task])
		}
		w.told[e.Task] = told
	case api.EvCommit:
		if w.s.Commit(e.Choice) != e.OK {
			t.Fatalf("%+v", e)
		}
		if e.OK {
			w.tried[e.Task]++
		} else {
			w.fails++
		}
	case api.EvPass:
		if w.ended[e.Task] || e.OK != (w.tried[e.Task] > 0) {
			t.Fatalf("%+v: %d choices took effect", e, w.tried[e.Task])
		}
		w.ended[e.Task] = true
	}
}

// end fails the test if something is left when all tasks are over. If the history is sound then, it always was.
func (w *witness) end(t *testing.T) {
	t.Helper()
	if c := w.c; c.Busy() != 0 || !c.Locks().Idle() || !hist.Sound(c.Events()) {
		t.Fatalf("%+v, sound %v", look(c), hist.Sound(c.Events()))
	}
	for id := range w.c.Tasks() + 2 {
		told, ok := w.c.Told(id)
		if want, is := w.told[id]; ok != is || told != want {
			t.Fatalf("task %d: told %+v, %v; want %+v", id, told, ok, want)
		}
	}
	alike(t, w.c.Core, w.s.Core)
}

// deed does something to a controller.
type deed func(c *ctrl.Ctrl)

// anything returns some deed, so that about as many tasks are created as end.
func anything(t *testing.T, r *rand.Rand, c *ctrl.Ctrl) deed {
	t.Helper()
	switch n := r.Intn(60); {
	case n < 7:
		b := bytes(t, r)
		return func(c *ctrl.Ctrl) { c.Call(b) }
	case n < 9:
		some, depth := 1+r.Intn(5), 1+r.Intn(20)
		return func(c *ctrl.Ctrl) { c.Pass(some, depth) }
	case n < 20:
		id := r.Intn(c.Tasks()+3) - 1
		return func(c *ctrl.Ctrl) { c.Do(id) }
	default:
		k := r.Intn(200) - 100
		return func(c *ctrl.Ctrl) { c.Pick(k) }
	}
}

// Promises 20.4 and 20.5, and G1: whatever steps are performed, everything is as if it had been performed at once at its Turn.
func TestAnyOrder(t *testing.T) {
	r, effects, fails, refused := rand.New(rand.NewSource(204)), 0, 0, 0
	for range 150 {
		c, again := made(t, 6), made(t, 6)
		w := follow(t, c)
		do := func(d deed) {
			before := c.Step()
			d(c)
			if d(again); c.Step() > before+1 {
				t.Fatalf("from step %d to %d", before, c.Step())
			}
			w.look(t)
		}
		for range r.Intn(600) {
			do(anything(t, r, c))
		}
		if r.Intn(8) == 0 {
			stop := coded(t, of(api.ReqStop, 0))
			do(func(c *ctrl.Ctrl) { c.Call(stop) })
		}
		for n := 0; c.Busy() > 0; n++ {
			if n > 20000 {
				t.Fatal("no end")
			}
			k := r.Intn(1000) - 500
			do(func(c *ctrl.Ctrl) { c.Pick(k) })
		}
		w.end(t)
		// What the calls return depends on nothing but on what was done before.
		if !slices.Equal(c.Events(), again.Events()) {
			t.Fatal("the same deeds, but other events")
		}
		alike(t, c.Core, again.Core)
		for _, n := range w.tried {
			effects += n
		}
		for _, told := range w.told {
			if told.Err == api.ErrForm || told.Err == api.ErrShort || told.Err == api.ErrLong {
				refused++
			}
		}
		fails += w.fails
	}
	if effects < 500 || fails < 50 || refused < 250 {
		t.Errorf("%d choices took effect, %d did not, %d times the bytes were not a request", effects, fails, refused)
	}
}

// Promise 20.4 for as many tasks as there may be, whichever of those that are ready comes next.
func TestAllAtOnce(t *testing.T) {
	r := rand.New(rand.NewSource(64))
	for name, pick := range map[string]func(n int) int{
		"the first":         func(int) int { return 0 },
		"the last":          func(int) int { return -1 },
		"around and around": func(n int) int { return n },
		"and back":          func(n int) int { return -n },
		"anyone":            func(int) int { return r.Intn(64) },
	} {
		for range 8 {
			c := made(t, 6)
			w := follow(t, c)
			for c.Busy() < api.MaxTasks {
				if r.Intn(4) == 0 {
					sweep(t, c, 1+r.Intn(3), 1+r.Intn(64))
				} else {
					called(t, c, bytes(t, r))
				}
				w.look(t)
			}
			for n := 0; c.Busy() > 0; n++ {
				if c.Pick(pick(n)) == 0 || n > 50000 {
					t.Fatalf("%s: after %d steps %d tasks are not over", name, n, c.Busy())
				}
				w.look(t)
			}
			w.end(t)
		}
	}
}

// Promise G6: one after the other, requests and passes have the results of the sequential scheduler.
func TestOneAfterTheOther(t *testing.T) {
	r, taken := rand.New(rand.NewSource(206)), 0
	for range 100 {
		c := made(t, 6)
		s, e := seq.New(6)
		if e != api.OK {
			t.Fatal(e)
		}
		for range 40 {
			if r.Intn(4) > 0 {
				x := mixed(r)
				id, want := call(t, c, x), s.Do(x)
				over(t, c, id)
				if told, ok := c.Told(id); !ok || told != want {
					t.Fatalf("%+v: %+v; want %+v", x, told, want)
				}
				continue
			}
			n, depth := len(c.Events()), 1+r.Intn(20)
			over(t, c, sweep(t, c, 1+r.Intn(4), depth))
			want, e := pass.Run(s, depth)
			if e != api.OK {
				t.Fatal(e)
			}
			l := c.Events()[n:]
			var chosen []api.Choice
			for _, x := range l[:len(l)-1] {
				chosen = append(chosen, x.Choice)
			}
			if !slices.Equal(chosen, want.Chosen) || l[len(l)-1].Kind != api.EvPass || l[len(l)-1].OK != (want.Taken > 0) {
				t.Fatalf("%+v; want %+v", l, want)
			}
			taken += want.Taken
		}
		alike(t, c.Core, s.Core)
	}
	if taken < 200 {
		t.Errorf("only %d choices took effect", taken)
	}
}
