package line_test

import (
	"math/rand"
	"slices"
	"testing"

	"berthage/api"
	"berthage/ctrl"
	"berthage/line"
	"berthage/req"
	"berthage/seq"
)

// mixed returns a request of which most are valid, on a core with a few jobs and 6 nodes.
func mixed(r *rand.Rand) api.Request {
	id, n := r.Intn(30), r.Intn(8)-1
	switch r.Intn(18) {
	case 0, 1, 2, 3, 4, 5:
		x := asked(1+r.Intn(7), int64(r.Intn(12)), r.Intn(4))
		x.Held = r.Intn(6) == 0
		return x
	case 6, 7:
		return tick(int64(r.Intn(6)))
	case 8, 9:
		return of([]int{api.ReqHold, api.ReqRelease}[r.Intn(2)], id)
	case 10, 11:
		return of([]int{api.ReqCancel, api.ReqComplete}[r.Intn(2)], id)
	case 12:
		return at(api.ReqDrain, n)
	case 13, 14:
		return at(api.ReqResume, n)
	case 15:
		return of(api.ReqQuery, id)
	default:
		return of([]int{api.ReqInfo, api.ReqLoad, api.ReqClock}[r.Intn(3)], 0)
	}
}

// bytes returns the encoding of a request, or, now and then, other bytes.
func bytes(t *testing.T, r *rand.Rand, x api.Request) []byte {
	t.Helper()
	b, e := req.Bytes(x)
	if e != api.OK {
		t.Fatalf("%+v: %v", x, e)
	}
	switch r.Intn(20) {
	case 0:
		b[r.Intn(len(b))] ^= byte(1 + r.Intn(255))
	case 1:
		b = b[:r.Intn(len(b))]
	case 2:
		b = append(b, make([]byte, r.Intn(70))...)
	}
	return b
}

// lived returns a controller that has performed something in any order, and whose tasks are all over.
func lived(t *testing.T, r *rand.Rand) *ctrl.Ctrl {
	t.Helper()
	c, e := ctrl.New(6)
	if e != api.OK {
		t.Fatal(e)
	}
	for range r.Intn(600) {
		switch n := r.Intn(60); {
		case n < 7:
			c.Call(bytes(t, r, mixed(r)))
		case n < 9:
			c.Pass(1+r.Intn(5), 1+r.Intn(20))
		default:
			c.Pick(r.Intn(200) - 100)
		}
	}
	if r.Intn(8) == 0 {
		c.Call(bytes(t, r, of(api.ReqStop, 0)))
	}
	for n := 0; c.Busy() > 0; n++ {
		if c.Pick(r.Intn(1000)) == 0 || n > 20000 {
			t.Fatal("no end")
		}
	}
	return c
}

// Promise 21.3: a history whose tasks are all over agrees, and the scheduler afterwards is as the core of the controller.
func TestAnyHistory(t *testing.T) {
	r, choices, refused := rand.New(rand.NewSource(213)), 0, 0
	for range 150 {
		c := lived(t, r)
		l := c.Events()
		x := replayed(t, 6, l...)
		if x.Bad != api.None || !line.Agrees(6, l...) || len(x.Answers) != len(c.Of(api.EvTurn)) {
			t.Fatalf("bad %d, %d answers, %d turns", x.Bad, len(x.Answers), len(c.Of(api.EvTurn)))
		}
		alike(t, x.Sched, seq.Over(c.Core))
		for id := range c.Tasks() + 2 {
			want, is := c.Told(id)
			if got, ok := x.Reply(id); ok != is || got != want {
				t.Fatalf("task %d: %+v, %v; want %+v, %v", id, got, ok, want, is)
			}
		}
		for i, e := range c.Of(api.EvTurn) {
			if told, _ := c.Told(e.Task); x.Answers[i] != (line.Answer{Task: e.Task, Reply: told}) {
				t.Fatalf("%+v: %+v; want %+v", e, x.Answers[i], told)
			}
			if e.Req.Kind == 0 {
				refused++
			}
		}
		// What took effect is enough, and the requests alone are those that were read.
		alike(t, replayed(t, 6, c.Order()...).Sched, x.Sched)
		if n := len(line.Calls(l...)); n != len(slices.DeleteFunc(c.Of(api.EvTurn), unread)) {
			t.Fatalf("%d calls", n)
		}
		choices += len(c.Of(api.EvCommit))
	}
	if choices < 500 || refused < 250 {
		t.Errorf("%d choices, %d times the bytes were not a request", choices, refused)
	}
}

// unread reports whether a turn is that of bytes that are not a request.
func unread(e api.Event) bool {
	return e.Req.Kind == 0
}

// A history of which one reply, or the outcome of one choice, is changed does not agree.
func TestAnyLie(t *testing.T) {
	r, replies, outcomes := rand.New(rand.NewSource(212)), 0, 0
	for range 60 {
		l := lived(t, r).Events()
		for i := range l {
			lie := slices.Clone(l)
			switch l[i].Kind {
			case api.EvReply:
				lie[i].Reply.C++
				replies++
			case api.EvCommit:
				lie[i].OK = !l[i].OK
				outcomes++
				if x := replayed(t, 6, lie...); x.Bad != i {
					t.Fatalf("bad %d; want %d", x.Bad, i)
				}
			default:
				continue
			}
			if line.Agrees(6, lie...) {
				t.Fatalf("agrees, though not this: %+v", lie[i])
			}
		}
	}
	if replies < 1000 || outcomes < 200 {
		t.Errorf("%d replies, %d outcomes", replies, outcomes)
	}
}

// anyEvent returns some event, sound or not.
func anyEvent(r *rand.Rand) api.Event {
	e := api.Event{Step: r.Intn(5) - 2, Kind: 1 + r.Intn(5), Task: r.Intn(9) - 1, Req: mixed(r), OK: r.Intn(2) == 0}
	e.Choice = api.Choice{Id: r.Intn(12), At: int64(r.Intn(40) - 2)}
	switch r.Intn(12) {
	case 0:
		e.Kind = r.Intn(20) - 8
	case 1:
		e.Req.Kind = r.Intn(40) - 20
	}
	if r.Intn(4) == 0 {
		e.Reply = full
	}
	return e
}

// model is what is to come of the events so far.
type model struct {
	s    *seq.Sched
	want line.Told
	l    []api.Event
}

// add performs an event. If it is to be honest, its outcome is made right first, or its reply, if it is known.
func (m *model) add(e api.Event, honest bool) {
	a := line.Answer{Task: e.Task, Reply: e.Reply}
	switch {
	case e.Kind == api.EvTurn && (e.Req.Kind < api.ReqSubmit || e.Req.Kind > api.ReqStop):
		m.want.Answers = append(m.want.Answers, a)
	case e.Kind == api.EvTurn:
		a.Reply = m.s.Do(e.Req)
		m.want.Answers = append(m.want.Answers, a)
	case e.Kind == api.EvReply && honest:
		r, ok := m.want.Reply(e.Task)
		if !ok {
			return
		}
		e.Reply = r
	case e.Kind == api.EvCommit:
		ok := m.s.Commit(e.Choice)
		if honest {
			e.OK = ok
		}
		if ok != e.OK && m.want.Bad == api.None {
			m.want.Bad = len(m.l)
		}
	}
	m.l = append(m.l, e)
}

// agrees reports whether the events so far agree.
func (m *model) agrees() bool {
	return m.want.Bad == api.None && !slices.ContainsFunc(m.l, func(e api.Event) bool {
		r, ok := m.want.Reply(e.Task)
		return e.Kind == api.EvReply && (!ok || r != e.Reply)
	})
}

// Whatever the events are, what comes of them is what the scheduler does.
func TestAnyEvents(t *testing.T) {
	r, bad, agree := rand.New(rand.NewSource(211)), 0, 0
	for range 600 {
		n, lies := 1+r.Intn(8), r.Intn(3)*r.Intn(20)
		m := &model{s: made(t, n), want: line.Told{Bad: api.None}}
		for range r.Intn(120) {
			m.add(anyEvent(r), r.Intn(100) >= lies)
		}
		x := replayed(t, n, m.l...)
		if x.Bad != m.want.Bad || !slices.Equal(x.Answers, m.want.Answers) {
			t.Fatalf("%+v; want %+v", x, m.want)
		}
		alike(t, x.Sched, m.s)
		if got := line.Agrees(n, m.l...); got != m.agrees() {
			t.Fatalf("agrees: %v: %+v", got, m.l)
		}
		if m.agrees() {
			agree++
		}
		if x.Bad != api.None {
			bad++
		}
	}
	if bad < 100 || agree < 100 {
		t.Errorf("of %d histories a choice differs, and %d agree", bad, agree)
	}
}
