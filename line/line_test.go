package line_test

import (
	"math"
	"slices"
	"testing"

	"berthage/api"
	"berthage/line"
	"berthage/seq"
)

// replayed returns what comes of a history that Replay must not refuse.
func replayed(t *testing.T, n int, l ...api.Event) line.Told {
	t.Helper()
	x, e := line.Replay(n, l...)
	if e != api.OK || x.Sched == nil {
		t.Fatalf("Replay(%d): %+v, %v", n, x, e)
	}
	return x
}

// made returns a new scheduler.
func made(t *testing.T, n int) *seq.Sched {
	t.Helper()
	s, e := seq.New(n)
	if e != api.OK {
		t.Fatal(e)
	}
	return s
}

// asked returns a valid request for a job.
func asked(width int, limit int64, prio int) api.Request {
	return api.Request{Kind: api.ReqSubmit, User: 7, Width: width, Limit: limit, Prio: prio}
}

// of returns a request for a job, or one without fields.
func of(kind, id int) api.Request {
	return api.Request{Kind: kind, Id: id}
}

// at returns a request for a node.
func at(kind, n int) api.Request {
	return api.Request{Kind: kind, Node: n}
}

// tick returns a ReqTick.
func tick(by int64) api.Request {
	return api.Request{Kind: api.ReqTick, By: by}
}

// turn returns the turn of a request.
func turn(task int, r api.Request) api.Event {
	return api.Event{Kind: api.EvTurn, Task: task, Req: r}
}

// tried returns the event of a choice.
func tried(id int, at int64, ok bool) api.Event {
	return api.Event{Kind: api.EvCommit, Task: 100, Choice: api.Choice{Id: id, At: at}, OK: ok}
}

// told returns the event of a reply.
func told(task int, r api.Reply) api.Event {
	return api.Event{Kind: api.EvReply, Task: task, Reply: r}
}

// alike fails the test if two schedulers differ.
func alike(t *testing.T, a, b *seq.Sched) {
	t.Helper()
	if a.Closed() != b.Closed() || a.Now() != b.Now() || a.Version() != b.Version() || a.Size() != b.Size() {
		t.Fatalf("closed %v and %v, now %d and %d, version %d and %d",
			a.Closed(), b.Closed(), a.Now(), b.Now(), a.Version(), b.Version())
	}
	if !slices.Equal(a.Jobs.All(), b.Jobs.All()) {
		t.Fatalf("jobs %+v and %+v", a.Jobs.All(), b.Jobs.All())
	}
	for n := range a.Size() {
		if a.State(n) != b.State(n) {
			t.Fatalf("node %d is %d and %d", n, a.State(n), b.State(n))
		}
	}
	if !slices.Equal(a.Steps(), b.Steps()) {
		t.Fatalf("steps %v and %v", a.Steps(), b.Steps())
	}
}

// full is a reply of which no number is 0.
var full = api.Reply{Err: 3, Id: 4, State: 5, Start: 6, End: 7, Plan: 8, A: 9, B: 10, C: 11}

// unkind are numbers that are no kinds of requests.
var unkind = []int{math.MinInt, -9, -1, 0, 14, 15, 1 << 32, 1<<32 + 1, math.MaxInt}

// Promise 21.1: Replay, Told.Reply.

func TestReplayOfNothing(t *testing.T) {
	for _, n := range []int{1, 2, 63, 64} {
		for _, l := range [][]api.Event{nil, {}} {
			x := replayed(t, n, l...)
			if x.Bad != api.None || len(x.Answers) != 0 || !line.Agrees(n, l...) {
				t.Errorf("%d nodes: %+v", n, x)
			}
			alike(t, x.Sched, made(t, n))
		}
	}
}

func TestReplayIsRefused(t *testing.T) {
	for _, n := range []int{math.MinInt, -64, -1, 0, 65, 128, 1<<32 + 4, math.MaxInt} {
		for _, l := range [][]api.Event{nil, {turn(1, asked(2, 10, 0)), tried(1, 0, false)}, {line.Refuse(1, api.ErrForm)}} {
			x, e := line.Replay(n, l...)
			if e != api.ErrArg || x.Sched != nil || len(x.Answers) != 0 || x.Bad != 0 {
				t.Errorf("Replay(%d, %d events): %+v, %v", n, len(l), x, e)
			}
			if r, ok := x.Reply(1); ok || r != (api.Reply{}) {
				t.Errorf("Replay(%d, %d events): %+v, %v", n, len(l), r, ok)
			}
			if line.Agrees(n, l...) {
				t.Errorf("%d events on %d nodes agree", len(l), n)
			}
		}
	}
}

// Requests are performed in the order of their turns, and this is also that of the answers.
func TestReplayOfRequests(t *testing.T) {
	l := []api.Request{
		asked(2, 10, 3), asked(4, 5, 3), asked(5, 10, 3), of(api.ReqQuery, 2), of(api.ReqHold, 1), of(api.ReqRelease, 1),
		of(api.ReqRelease, 1), of(api.ReqComplete, 9), of(api.ReqCancel, 2), at(api.ReqDrain, 3), at(api.ReqDrain, 3), at(api.ReqResume, 3),
		at(api.ReqDrain, 0), tick(7), tick(0), of(api.ReqInfo, 0), of(api.ReqLoad, 0), of(api.ReqClock, 0), of(api.ReqStop, 0), asked(1, 1, 1),
	}
	tasks := []int{5, 4, 0, -1, 9, math.MinInt, math.MaxInt, 10, 11, 12, 13, 14, 15, 16, 17, 18, 19, 20, 21, 22}
	var turns []api.Event
	for i, r := range l {
		turns = append(turns, turn(tasks[i], r))
	}
	s := made(t, 4)
	want := s.All(l...)
	x := replayed(t, 4, turns...)
	if len(x.Answers) != len(l) || x.Bad != api.None {
		t.Fatalf("%+v", x)
	}
	for i, a := range x.Answers {
		if a.Task != tasks[i] || a.Reply != want[i] {
			t.Errorf("%+v: %+v; want %+v", l[i], a, want[i])
		}
		if r, ok := x.Reply(tasks[i]); !ok || r != want[i] {
			t.Errorf("Reply(%d): %+v, %v", tasks[i], r, ok)
		}
	}
	alike(t, x.Sched, s)
	if !x.Sched.Closed() || x.Sched.Now() != 7 || x.Sched.Len() != 2 {
		t.Errorf("closed %v, now %d, jobs %d", x.Sched.Closed(), x.Sched.Now(), x.Sched.Len())
	}
}

// The reply that an event says does not matter if its request is performed, nor do fields that its kind does not have.
func TestReplayAnswersAnew(t *testing.T) {
	e := turn(1, asked(2, 10, 3))
	e.Reply, e.Step, e.OK, e.Choice = full, -7, true, api.Choice{Id: 1, At: 3}
	e.Req.Id, e.Req.Node, e.Req.By = 99, 99, 99
	x, s := replayed(t, 4, e), made(t, 4)
	if want := s.Do(asked(2, 10, 3)); len(x.Answers) != 1 || x.Answers[0] != (line.Answer{Task: 1, Reply: want}) || want.Err != api.OK {
		t.Errorf("%+v; want %+v", x.Answers, want)
	}
	alike(t, x.Sched, s)
}

// The answer of what is not a request is the reply of its event, whole, and it changes nothing.
func TestReplayOfOtherKinds(t *testing.T) {
	for _, k := range unkind {
		for _, r := range []api.Reply{{}, {Err: api.ErrForm}, {Err: -5}, full} {
			e := turn(2, asked(2, 10, 900))
			e.Req.Kind, e.Reply = k, r
			for _, end := range [][]api.Event{nil, {turn(3, of(api.ReqStop, 0)), e}} {
				x := replayed(t, 4, append([]api.Event{turn(1, asked(3, 10, 1)), tried(1, 5, true), e}, end...)...)
				if got, ok := x.Reply(2); !ok || got != r || x.Bad != api.None {
					t.Errorf("kind %d: %+v, %v; want %+v", k, got, ok, r)
				}
				if last := x.Answers[len(x.Answers)-1]; last != (line.Answer{Task: 2, Reply: r}) {
					t.Errorf("kind %d: %+v", k, last)
				}
				if j, _ := x.Sched.Get(1); x.Sched.Len() != 1 || j.Plan != 5 {
					t.Errorf("kind %d: %d jobs, %+v", k, x.Sched.Len(), j)
				}
			}
		}
	}
}

// Only turns and choices are performed.
func TestReplayOfOtherEvents(t *testing.T) {
	for _, k := range []int{api.EvCall, api.EvReply, api.EvPass, 0, -1, 6, math.MinInt, math.MaxInt, 1<<32 + 2, 1<<32 + 4} {
		e := api.Event{Kind: k, Task: 2, Req: asked(1, 1, 9), Reply: full, Choice: api.Choice{Id: 1, At: 5}, OK: true}
		x := replayed(t, 4, e, turn(1, asked(3, 10, 1)), e, tried(1, 7, true), e)
		if len(x.Answers) != 1 || x.Answers[0].Task != 1 || x.Bad != api.None {
			t.Errorf("kind %d: %+v", k, x)
		}
		if _, ok := x.Reply(2); ok {
			t.Errorf("kind %d has an answer", k)
		}
		s := made(t, 4)
		s.Do(asked(3, 10, 1))
		s.Commit(api.Choice{Id: 1, At: 7})
		alike(t, x.Sched, s)
	}
}

// A choice is performed just where its event is, among the turns.
func TestReplayOfChoices(t *testing.T) {
	l := []api.Event{
		turn(1, asked(3, 10, 1)), tried(1, 0, true), turn(2, asked(3, 10, 1)), tried(2, 9, false), tried(2, 10, true),
		tried(2, 10, false), turn(3, of(api.ReqComplete, 1)), tried(2, 1, true), turn(4, tick(1)), tried(2, 1, false),
	}
	x := replayed(t, 4, l...)
	if x.Bad != api.None || len(x.Answers) != 4 || !line.Agrees(4, l...) {
		t.Fatalf("%+v", x)
	}
	one, _ := x.Sched.Get(1)
	two, _ := x.Sched.Get(2)
	if one.State != api.Completed || one.End != 0 || two.State != api.Running || two.Start != 1 || two.End != 11 || x.Sched.Now() != 1 {
		t.Fatalf("%+v, %+v", one, two)
	}
	// The same events in another order do not agree: job 1 does not exist yet.
	l[0], l[1] = l[1], l[0]
	if y := replayed(t, 4, l...); y.Bad != 0 || line.Agrees(4, l...) {
		t.Fatalf("%+v", y)
	}
}

func TestBad(t *testing.T) {
	sub := turn(1, asked(2, 10, 0))
	for i, x := range []struct {
		l    []api.Event
		want int
	}{
		{[]api.Event{tried(1, 0, true)}, 0}, {[]api.Event{tried(1, 0, false)}, api.None},
		{[]api.Event{sub, tried(1, 0, true)}, api.None}, {[]api.Event{sub, tried(1, 0, false)}, 1},
		{[]api.Event{sub, tried(1, 0, false), tried(1, 0, false)}, 1},
		{[]api.Event{sub, tried(1, 0, true), tried(1, 0, true), tried(1, 0, true)}, 2},
		{[]api.Event{tried(1, 0, false), sub, told(1, full), tried(1, -1, false), tried(2, 0, false), tried(1, 0, true), tried(1, 5, true)}, 6},
		{[]api.Event{sub, tried(1, 1<<40, true)}, api.None}, {[]api.Event{sub, tried(1, 1<<40+1, true)}, 1},
		{[]api.Event{sub, tried(1, math.MaxInt64, false), tried(1, math.MinInt64, true)}, 2},
		{[]api.Event{sub, tried(math.MaxInt, 0, false), tried(math.MinInt, 0, false), tried(0, 0, true)}, 3},
		{[]api.Event{sub, turn(2, of(api.ReqStop, 0)), tried(1, 0, false)}, api.None},
		{[]api.Event{sub, turn(2, of(api.ReqStop, 0)), tried(1, 0, true)}, 2},
		// A choice without OK is no event that is passed over.
		{[]api.Event{sub, turn(2, tick(5)), tried(1, 4, false), tried(1, 5, false), tried(1, 6, true)}, 3},
	} {
		if told := replayed(t, 2, x.l...); told.Bad != x.want {
			t.Errorf("%d: %d; want %d", i, told.Bad, x.want)
		}
		if line.Agrees(2, x.l...) != (x.want == api.None) {
			t.Errorf("%d: agrees, but Bad is %d; or the other way round", i, x.want)
		}
	}
}

// A choice that differs has the effect that it has now, and what comes after it is performed, too.
func TestReplayGoesOn(t *testing.T) {
	x := replayed(t, 2, turn(1, asked(2, 10, 0)), tried(1, 0, false), turn(2, of(api.ReqQuery, 1)), tried(1, 1, true), turn(3, tick(3)))
	r, ok := x.Reply(2)
	if x.Bad != 1 || !ok || r.State != api.Running || len(x.Answers) != 3 || x.Sched.Now() != 3 {
		t.Fatalf("%+v", x)
	}
	x = replayed(t, 2, turn(1, asked(2, 10, 0)), tried(1, -1, true), turn(2, of(api.ReqQuery, 1)), tried(1, 3, true), turn(3, tick(3)))
	if r, ok = x.Reply(2); x.Bad != 1 || !ok || r.State != api.Pending || r.Plan != -1 {
		t.Fatalf("%+v", x)
	}
	if j, _ := x.Sched.Get(1); j.State != api.Running || j.Start != 3 {
		t.Fatalf("%+v", j)
	}
}

func TestFirstReply(t *testing.T) {
	a, b, c := api.Reply{Id: 1}, api.Reply{Id: 2}, full
	x := line.Told{Answers: []line.Answer{{Task: 3, Reply: a}, {Task: 1, Reply: b}, {Task: 3, Reply: c}, {Task: -2, Reply: c}, {Task: 8}}, Bad: 4}
	for task, want := range map[int]api.Reply{3: a, 1: b, -2: c, 8: {}} {
		if r, ok := x.Reply(task); !ok || r != want {
			t.Errorf("Reply(%d): %+v, %v", task, r, ok)
		}
	}
	for _, task := range []int{0, -1, 2, 4, math.MinInt, math.MaxInt} {
		for _, y := range []line.Told{x, {}, replayed(t, 4)} {
			if r, ok := y.Reply(task); ok || r != (api.Reply{}) {
				t.Errorf("Reply(%d): %+v, %v", task, r, ok)
			}
		}
	}
	// Of a task with several turns all are performed, and the first one is told.
	y := replayed(t, 4, turn(1, asked(1, 1, 1)), turn(1, asked(1, 1, 1)), line.Refuse(1, api.ErrLong))
	if r, ok := y.Reply(1); !ok || r.Id != 1 || len(y.Answers) != 3 || y.Answers[1].Reply.Id != 2 || y.Answers[2].Reply.Err != api.ErrLong {
		t.Errorf("%+v", y)
	}
}

// Rules R3 and R4: nothing is shared, with the arguments or among results.
func TestReplaysAreApart(t *testing.T) {
	l := []api.Event{turn(1, asked(2, 10, 0)), tried(1, 4, true), line.Refuse(2, api.ErrForm), told(2, api.Reply{Err: api.ErrForm})}
	before := slices.Clone(l)
	a, b := replayed(t, 4, l...), replayed(t, 4, l...)
	if line.Agrees(4, l...); !slices.Equal(l, before) {
		t.Fatalf("%+v; it was %+v", l, before)
	}
	alike(t, a.Sched, b.Sched)
	if !slices.Equal(a.Answers, b.Answers) {
		t.Fatalf("%+v and %+v", a.Answers, b.Answers)
	}
	want := b.Answers[0]
	a.Answers[0] = line.Answer{Task: 9}
	clear(l)
	a.Sched.Do(of(api.ReqCancel, 1))
	if j, _ := b.Sched.Get(1); b.Answers[0] != want || j.State != api.Pending || j.Plan != 4 {
		t.Fatalf("%+v, %+v", b.Answers, j)
	}
	if r, _ := a.Reply(1); r != (api.Reply{}) {
		t.Fatalf("%+v", r)
	}
}

// Promise 21.2: Agrees, Calls, Refuse.

func TestAgrees(t *testing.T) {
	sub := turn(1, asked(2, 10, 3))
	s := made(t, 4)
	first, second := s.Do(sub.Req), s.Do(sub.Req)
	changed := func(change func(r *api.Reply)) api.Event {
		r := first
		change(&r)
		return told(1, r)
	}
	odd := turn(1, api.Request{Kind: 99})
	odd.Reply = full
	for i, x := range []struct {
		l    []api.Event
		want bool
	}{
		{[]api.Event{sub, told(1, first)}, true}, {[]api.Event{sub, told(1, api.Reply{})}, false}, {[]api.Event{sub}, true},
		{[]api.Event{sub, told(1, first), told(1, first)}, true}, {[]api.Event{sub, told(1, first), told(1, second)}, false},
		// It is the first answer that counts, and it may come after the reply.
		{[]api.Event{told(1, first), sub}, true}, {[]api.Event{told(1, second), sub, sub}, false},
		{[]api.Event{sub, sub, told(1, first)}, true}, {[]api.Event{sub, sub, told(1, second)}, false},
		{[]api.Event{sub, turn(2, sub.Req), told(2, second), told(1, first)}, true},
		{[]api.Event{sub, turn(2, sub.Req), told(2, first), told(1, second)}, false},
		// A task without an answer has no reply that is its first answer, not even a zero one.
		{[]api.Event{told(1, api.Reply{})}, false}, {[]api.Event{sub, told(1, first), told(2, api.Reply{})}, false},
		{[]api.Event{{Kind: api.EvCall, Task: 1, Req: sub.Req}, told(1, first)}, false}, {[]api.Event{sub, told(0, first)}, false},
		{[]api.Event{turn(-5, sub.Req), told(-5, first)}, true},
		{[]api.Event{odd, told(1, full)}, true}, {[]api.Event{odd, told(1, api.Reply{Err: api.ErrForm})}, false},
		{[]api.Event{line.Refuse(1, api.ErrLong), told(1, api.Reply{Err: api.ErrLong})}, true},
		{[]api.Event{line.Refuse(1, api.ErrLong), told(1, api.Reply{Err: api.ErrForm})}, false},
		{[]api.Event{line.Refuse(1, api.OK), told(1, api.Reply{})}, true},
		{[]api.Event{line.Refuse(1, api.ErrLong), sub, told(1, first)}, false},
		// Replies that are right do not make up for a choice that differs, nor the other way round.
		{[]api.Event{sub, told(1, first), tried(1, 0, false)}, false}, {[]api.Event{sub, told(1, second), tried(1, 0, true)}, false},
		{[]api.Event{sub, told(1, first), tried(1, 0, true)}, true}, {[]api.Event{tried(1, 0, true), sub, told(1, first)}, false},
		// Each number of a reply counts.
		{[]api.Event{sub, changed(func(r *api.Reply) { r.Err++ })}, false}, {[]api.Event{sub, changed(func(r *api.Reply) { r.Id++ })}, false},
		{[]api.Event{sub, changed(func(r *api.Reply) { r.State++ })}, false}, {[]api.Event{sub, changed(func(r *api.Reply) { r.Start++ })}, false},
		{[]api.Event{sub, changed(func(r *api.Reply) { r.End++ })}, false}, {[]api.Event{sub, changed(func(r *api.Reply) { r.Plan++ })}, false},
		{[]api.Event{sub, changed(func(r *api.Reply) { r.A++ })}, false}, {[]api.Event{sub, changed(func(r *api.Reply) { r.B++ })}, false},
		{[]api.Event{sub, changed(func(r *api.Reply) { r.C++ })}, false},
	} {
		if got := line.Agrees(4, x.l...); got != x.want {
			t.Errorf("%d: %v", i, got)
		}
	}
}

// Only the replies of EvReply events are compared; the rest of an event does not matter, nor do its step and its request.
func TestAgreesIgnores(t *testing.T) {
	sub := turn(1, asked(2, 10, 3))
	first := made(t, 4).Do(sub.Req)
	sub.Reply = full
	r := told(1, first)
	r.Step, r.Req, r.OK, r.Choice = -3, tick(5), true, api.Choice{Id: 1}
	l := []api.Event{sub, r}
	for _, k := range []int{api.EvCall, api.EvPass, 0, 6, -3, 1<<32 + 3} {
		l = append(l, api.Event{Kind: k, Task: 1, Reply: full, OK: true, Req: asked(1, 1, 1)})
	}
	if !line.Agrees(4, l...) {
		t.Error("what does not matter is compared")
	}
	if line.Agrees(1, l...) {
		t.Error("a job of 2 nodes is submitted on 1 node, with the same reply")
	}
}

func TestCalls(t *testing.T) {
	odd := asked(2, 10, 3)
	odd.Id, odd.Node, odd.By = 5, -6, 7
	bad := asked(-1, math.MaxInt64, math.MinInt)
	l := []api.Event{
		turn(3, odd), {Kind: api.EvCall, Task: 1, Req: tick(5)}, turn(1, tick(5)), line.Refuse(2, api.ErrForm), turn(9, bad),
		{Kind: api.EvReply, Task: 1, Req: tick(5)}, {Kind: api.EvCommit, Req: tick(5), OK: true}, {Kind: api.EvPass, Req: tick(5)},
		{Kind: 0, Req: tick(5)}, {Kind: 6, Req: tick(5)}, {Kind: -2, Req: tick(5)}, {Kind: 1<<32 + 2, Req: tick(5)}, turn(1, tick(5)),
	}
	want := []api.Request{odd, tick(5), bad, tick(5)}
	for k := api.ReqSubmit; k <= api.ReqStop; k++ {
		l, want = append(l, turn(k, of(k, 1))), append(want, of(k, 1))
	}
	for _, k := range unkind {
		l = append(l, turn(1, of(k, 1)))
	}
	before := slices.Clone(l)
	got := line.Calls(l...)
	if !slices.Equal(got, want) || !slices.Equal(l, before) {
		t.Errorf("%+v; want %+v", got, want)
	}
	clear(got)
	if again := line.Calls(l...); !slices.Equal(again, want) || !slices.Equal(l, before) {
		t.Errorf("%+v; want %+v", again, want)
	}
	for _, none := range [][]api.Event{nil, {}, {line.Refuse(1, api.ErrForm)}, {told(1, full), tried(1, 0, true)}} {
		if got := line.Calls(none...); len(got) != 0 {
			t.Errorf("%+v", got)
		}
	}
}

func TestRefuse(t *testing.T) {
	for _, task := range []int{1, 7, 0, -1, math.MinInt, math.MaxInt} {
		for _, e := range []api.Errno{api.ErrForm, api.ErrShort, api.ErrLong, api.OK, api.ErrLock, -1, math.MaxInt} {
			x := line.Refuse(task, e)
			if x != (api.Event{Kind: api.EvTurn, Task: task, Reply: api.Reply{Err: e}}) {
				t.Errorf("Refuse(%d, %d): %+v", task, e, x)
			}
			if r, ok := replayed(t, 1, x).Reply(task); !ok || r != (api.Reply{Err: e}) {
				t.Errorf("Refuse(%d, %d) is answered %+v, %v", task, e, r, ok)
			}
		}
	}
}
