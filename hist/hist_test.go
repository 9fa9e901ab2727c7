package hist_test

import (
	"math"
	"math/rand"
	"slices"
	"testing"

	"berthage/api"
	"berthage/hist"
)

// call, turn, reply, commit and pass return an event of this task in this step.
func call(step, task int) api.Event   { return api.Event{Step: step, Kind: api.EvCall, Task: task} }
func turn(step, task int) api.Event   { return api.Event{Step: step, Kind: api.EvTurn, Task: task} }
func reply(step, task int) api.Event  { return api.Event{Step: step, Kind: api.EvReply, Task: task} }
func commit(step, task int) api.Event { return api.Event{Step: step, Kind: api.EvCommit, Task: task} }
func pass(step, task int) api.Event   { return api.Event{Step: step, Kind: api.EvPass, Task: task} }

// full returns an event that has all fields.
func full(step, kind, task int) api.Event {
	return api.Event{
		Step: step, Kind: kind, Task: task,
		Req:    api.Request{Kind: api.ReqSubmit, Id: 1, User: 2, Width: 3, Limit: 4, Prio: 5, Held: true, Node: 6, By: 7},
		Reply:  api.Reply{Err: api.ErrNone, Id: 1, State: 2, Start: 3, End: 4, Plan: 5, A: 6, B: 7, C: 8},
		Choice: api.Choice{Id: 9, At: 10},
		OK:     true,
	}
}

// history returns a log of two requests and a pass, in steps 0 to 2, and its events.
func history() (*hist.Log, []api.Event) {
	l := &hist.Log{}
	l.Note(call(0, 1), call(0, 2))
	l.Tick()
	l.Note(turn(1, 2))
	l.Note(commit(1, 3))
	l.Tick()
	l.Note(reply(2, 2), commit(2, 3), pass(2, 3), turn(2, 1))
	return l, []api.Event{call(0, 1), call(0, 2), turn(1, 2), commit(1, 3), reply(2, 2), commit(2, 3), pass(2, 3), turn(2, 1)}
}

// same fails the test if a list of events is another one.
func same(t *testing.T, name string, got, want []api.Event) {
	t.Helper()
	if !slices.Equal(got, want) {
		t.Errorf("%s is %v, not %v", name, got, want)
	}
}

// found fails the test if Find returns something else.
func found(t *testing.T, l *hist.Log, kind, task int, want api.Event, ok bool) {
	t.Helper()
	if got, is := l.Find(kind, task); got != want || is != ok {
		t.Errorf("Find(%d, %d) is %v and %v, not %v and %v", kind, task, got, is, want, ok)
	}
}

// empty fails the test if a log has an event.
func empty(t *testing.T, l *hist.Log) {
	t.Helper()
	if got := l.Events(); len(got) != 0 {
		t.Errorf("Events is %v", got)
	}
	if got := l.Of(0, api.EvCall, api.EvTurn, api.EvReply, api.EvCommit, api.EvPass); len(got) != 0 {
		t.Errorf("Of is %v", got)
	}
	if got := l.Order(); len(got) != 0 {
		t.Errorf("Order is %v", got)
	}
	for kind := range 7 {
		for task := -1; task < 3; task++ {
			found(t, l, kind, task, api.Event{}, false)
		}
	}
}

// Promise 19.1.

func TestZeroLogIsEmpty(t *testing.T) {
	l := &hist.Log{}
	empty(t, l)
	if l.Step() != 0 {
		t.Errorf("Step is %d", l.Step())
	}
	l.Note()
	empty(t, l)
	l.Tick()
	empty(t, l)
	l.Note(call(1, 1))
	same(t, "Events", l.Events(), []api.Event{call(1, 1)})
}

func TestNilLogKeepsNothing(t *testing.T) {
	var l *hist.Log
	empty(t, l)
	l.Tick()
	l.Note()
	l.Note(call(0, 1), turn(0, 1))
	empty(t, l)
	if l.Step() != 0 {
		t.Errorf("Step is %d", l.Step())
	}
}

func TestTickIncreasesTheStep(t *testing.T) {
	l := &hist.Log{}
	for n := range 1000 {
		if l.Step() != n {
			t.Fatalf("Step is %d after %d ticks", l.Step(), n)
		}
		l.Tick()
	}
	l.Note(call(5, 1))
	if l.Step() != 1000 {
		t.Errorf("Step is %d after an event", l.Step())
	}
}

func TestNoteUsesThePresentStep(t *testing.T) {
	l := &hist.Log{}
	steps := []int{99, 0, -1, math.MaxInt, math.MinInt}
	var want []api.Event
	for n := range 4 {
		for i, step := range steps {
			l.Note(full(step, api.EvTurn, i))
			want = append(want, full(n, api.EvTurn, i))
		}
		l.Tick()
	}
	same(t, "Events", l.Events(), want)
}

func TestNoteKeepsAnyEvent(t *testing.T) {
	l := &hist.Log{}
	all := []api.Event{
		{}, {Kind: 9}, {Kind: -1, Task: -5}, full(0, math.MaxInt, math.MinInt), reply(0, 1), reply(0, 1), call(0, 0),
	}
	l.Note(all...)
	same(t, "Events", l.Events(), all)
	same(t, "Of(9)", l.Of(9), []api.Event{{Kind: 9}})
	same(t, "Of(0)", l.Of(0), []api.Event{{}})
	same(t, "Of(-1, MaxInt)", l.Of(-1, math.MaxInt), all[2:4])
	found(t, l, math.MaxInt, math.MinInt, all[3], true)
	found(t, l, 0, 0, api.Event{}, true)
}

func TestEventsAreInOrder(t *testing.T) {
	l, want := history()
	same(t, "Events", l.Events(), want)
	l.Tick()
	same(t, "Events", l.Events(), want)
	l.Note(reply(3, 1))
	same(t, "Events", l.Events(), append(want, reply(3, 1)))
}

func TestOfReturnsTheKindsThatAreNamed(t *testing.T) {
	l, all := history()
	for _, c := range []struct {
		kinds []int
		want  []api.Event
	}{
		{nil, nil},
		{[]int{api.EvCall}, []api.Event{call(0, 1), call(0, 2)}},
		{[]int{api.EvTurn}, []api.Event{turn(1, 2), turn(2, 1)}},
		{[]int{api.EvReply}, []api.Event{reply(2, 2)}},
		{[]int{api.EvCommit}, []api.Event{commit(1, 3), commit(2, 3)}},
		{[]int{api.EvPass}, []api.Event{pass(2, 3)}},
		{[]int{api.EvPass, api.EvCall}, []api.Event{call(0, 1), call(0, 2), pass(2, 3)}},
		{[]int{api.EvReply, api.EvReply, api.EvReply}, []api.Event{reply(2, 2)}},
		{[]int{0, -1, 6, 1 << 32, 1<<32 + 1, math.MaxInt, math.MinInt}, nil},
		{[]int{0, api.EvPass, -1}, []api.Event{pass(2, 3)}},
		{[]int{5, 4, 3, 2, 1}, all},
	} {
		before := slices.Clone(c.kinds)
		same(t, "Of", l.Of(c.kinds...), c.want)
		if !slices.Equal(c.kinds, before) {
			t.Errorf("Of changed %v to %v", before, c.kinds)
		}
	}
}

func TestOrderIsTurnsAndCommits(t *testing.T) {
	l, _ := history()
	want := []api.Event{turn(1, 2), commit(1, 3), commit(2, 3), turn(2, 1)}
	same(t, "Order", l.Order(), want)
	l.Note(call(2, 4), reply(2, 1), pass(2, 3))
	same(t, "Order", l.Order(), want)
	l.Note(full(2, api.EvCommit, 5))
	same(t, "Order", l.Order(), append(want, full(2, api.EvCommit, 5)))
}

func TestFindReturnsTheFirst(t *testing.T) {
	l, _ := history()
	found(t, l, api.EvCall, 1, call(0, 1), true)
	found(t, l, api.EvCall, 2, call(0, 2), true)
	found(t, l, api.EvTurn, 1, turn(2, 1), true)
	found(t, l, api.EvTurn, 2, turn(1, 2), true)
	found(t, l, api.EvCommit, 3, commit(1, 3), true)
	found(t, l, api.EvPass, 3, pass(2, 3), true)
	found(t, l, api.EvReply, 2, reply(2, 2), true)
	for _, c := range []struct{ kind, task int }{
		{api.EvReply, 1}, {api.EvReply, 3}, {api.EvCall, 3}, {api.EvCall, 0}, {api.EvCall, -1}, {api.EvCall, 1<<32 + 1},
		{0, 1}, {6, 1}, {-1, 1}, {1<<32 + 1, 1}, {math.MaxInt, math.MinInt},
	} {
		found(t, l, c.kind, c.task, api.Event{}, false)
	}
	l.Tick()
	l.Note(full(3, api.EvReply, 1), reply(3, 1))
	found(t, l, api.EvReply, 1, full(3, api.EvReply, 1), true)
}

func TestLogSharesNoMemory(t *testing.T) {
	l := &hist.Log{}
	all := []api.Event{call(0, 1), turn(0, 1), commit(0, 2)}
	l.Note(all...)
	want := slices.Clone(all)
	for i := range all {
		all[i] = full(7, 7, 7)
	}
	same(t, "Events", l.Events(), want)
	for _, list := range [][]api.Event{l.Events(), l.Of(1, 2, 3, 4), l.Order()} {
		for i := range list {
			list[i] = full(8, 8, 8)
		}
		// What is appended may not end up in the log, or in another list.
		list = append(list, full(9, 9, 9))
		same(t, "Events", l.Events(), want)
		l.Note(reply(0, 3))
		want = append(want, reply(0, 3))
		same(t, "Events", l.Events(), want)
		if list[len(list)-1] != full(9, 9, 9) {
			t.Error("the log wrote to a list that it had returned")
		}
	}
}

func TestNoteDoesNotChangeItsEvents(t *testing.T) {
	l := &hist.Log{}
	l.Tick()
	all := []api.Event{call(99, 1), turn(-1, 1)}
	l.Note(all...)
	same(t, "the argument", all, []api.Event{call(99, 1), turn(-1, 1)})
}

func TestLogsAreApart(t *testing.T) {
	a, b := &hist.Log{}, &hist.Log{}
	a.Note(call(0, 1))
	a.Tick()
	empty(t, b)
	if b.Step() != 0 {
		t.Errorf("Step of another log is %d", b.Step())
	}
}

func TestLogIsAsAPlainList(t *testing.T) {
	r := rand.New(rand.NewSource(191))
	for range 100 {
		l, step := &hist.Log{}, 0
		var all []api.Event
		for range r.Intn(60) {
			if r.Intn(3) == 0 {
				l.Tick()
				step++
				continue
			}
			some := make([]api.Event, r.Intn(4))
			for i := range some {
				kind, task := r.Intn(8)-1, r.Intn(4)
				some[i] = full(r.Intn(9), kind, task)
				all = append(all, full(step, kind, task))
			}
			l.Note(some...)
		}
		compare(t, l, step, all)
	}
}

// compare fails the test if a log has not this step and these events.
func compare(t *testing.T, l *hist.Log, step int, all []api.Event) {
	t.Helper()
	if l.Step() != step {
		t.Fatalf("Step is %d, not %d", l.Step(), step)
	}
	same(t, "Events", l.Events(), all)
	of := func(kinds ...int) []api.Event {
		return slices.DeleteFunc(slices.Clone(all), func(e api.Event) bool { return !slices.Contains(kinds, e.Kind) })
	}
	same(t, "Order", l.Order(), of(2, 4))
	for kind := -1; kind < 7; kind++ {
		same(t, "Of", l.Of(kind), of(kind))
		same(t, "Of", l.Of(kind, 3), of(kind, 3))
		for task := range 4 {
			n := slices.IndexFunc(all, func(e api.Event) bool { return e.Kind == kind && e.Task == task })
			if n < 0 {
				found(t, l, kind, task, api.Event{}, false)
			} else {
				found(t, l, kind, task, all[n], true)
			}
		}
	}
}

// Promise 19.2.

func TestSound(t *testing.T) {
	l, all := history()
	for _, c := range []struct {
		name string
		l    []api.Event
		want bool
	}{
		{"nothing", nil, true},
		{"an empty list", []api.Event{}, true},
		{"the events of a log", l.Events(), true},
		{"the same ones", all, true},
		{"a call", []api.Event{call(0, 1)}, true},
		{"a call and a turn", []api.Event{call(0, 1), turn(0, 1)}, true},
		{"a call, a turn and a reply", []api.Event{call(0, 1), turn(0, 1), reply(0, 1)}, true},
		{"in later steps", []api.Event{call(3, 1), turn(3, 1), reply(9, 1)}, true},
		{"a turn alone", []api.Event{turn(0, 1)}, false},
		{"a reply alone", []api.Event{reply(0, 1)}, false},
		{"a turn first", []api.Event{turn(0, 1), call(0, 1), reply(0, 1)}, false},
		{"a call last", []api.Event{turn(0, 1), reply(0, 1), call(0, 1)}, false},
		{"a reply first", []api.Event{reply(0, 1), call(0, 1), turn(0, 1)}, false},
		{"a reply before the turn", []api.Event{call(0, 1), reply(0, 1), turn(0, 1)}, false},
		{"no turn", []api.Event{call(0, 1), reply(0, 1)}, false},
		{"two calls", []api.Event{call(0, 1), call(0, 1)}, false},
		{"two turns", []api.Event{call(0, 1), turn(0, 1), turn(0, 1)}, false},
		{"a call after the turn", []api.Event{call(0, 1), turn(0, 1), call(0, 1)}, false},
		{"two replies", []api.Event{call(0, 1), turn(0, 1), reply(0, 1), reply(0, 1)}, false},
		{"a turn after the reply", []api.Event{call(0, 1), turn(0, 1), reply(0, 1), turn(0, 1)}, false},
		{"a call after the reply", []api.Event{call(0, 1), turn(0, 1), reply(0, 1), call(0, 1)}, false},
		{"twice", []api.Event{call(0, 1), turn(0, 1), reply(0, 1), call(0, 1), turn(0, 1), reply(0, 1)}, false},
		{"two tasks in turn", []api.Event{call(0, 1), call(0, 2), turn(1, 2), turn(1, 1), reply(2, 1), reply(2, 2)}, true},
		{"the turn of another task", []api.Event{call(0, 1), turn(0, 2)}, false},
		{"the reply of another task", []api.Event{call(0, 1), turn(0, 1), call(0, 2), reply(0, 2)}, false},
		{"one of two tasks is wrong", []api.Event{call(0, 1), call(0, 2), turn(0, 1), turn(0, 1)}, false},
		{"tasks of any number", []api.Event{call(0, 0), call(0, -1), call(0, math.MaxInt), turn(0, -1), turn(0, 0)}, true},
		{"tasks far apart", []api.Event{call(0, 1), call(0, 1<<32+1), call(0, 257), call(0, 65)}, true},
		{"a commit and a pass", []api.Event{commit(0, 1), pass(0, 1)}, true},
		{"a commit after the pass", []api.Event{pass(0, 1), commit(0, 1)}, true},
		{"many commits and passes", []api.Event{commit(0, 1), commit(0, 1), pass(0, 1), pass(0, 1)}, true},
		{"a commit of a request", []api.Event{call(0, 1), commit(0, 1), turn(0, 1), pass(0, 1), reply(0, 1)}, true},
		{"a commit as a turn", []api.Event{call(0, 1), commit(0, 1), reply(0, 1)}, false},
		{"a pass first", []api.Event{pass(0, 1), turn(0, 1)}, false},
		{"no other fields matter", []api.Event{full(0, 1, 1), full(0, 2, 1), full(0, 3, 1), full(0, 4, 1), full(0, 5, 1)}, true},
	} {
		if got := hist.Sound(c.l); got != c.want {
			t.Errorf("%s: Sound is %v, not %v", c.name, got, c.want)
		}
	}
}

func TestSoundKinds(t *testing.T) {
	for _, kind := range []int{0, -1, 6, 9, 1 << 32, 1<<32 + 1, 257, math.MaxInt, math.MinInt} {
		wrong := api.Event{Kind: kind, Task: 1}
		for _, l := range [][]api.Event{
			{wrong}, {call(0, 1), wrong}, {wrong, call(0, 1)}, {call(0, 1), turn(0, 1), reply(0, 1), wrong}, {pass(0, 1), wrong, pass(0, 1)},
		} {
			if hist.Sound(l) {
				t.Errorf("Sound of %v, with the kind %d", l, kind)
			}
		}
	}
}

func TestSoundSteps(t *testing.T) {
	for _, c := range []struct {
		steps []int
		want  bool
	}{
		{[]int{0}, true},
		{[]int{5}, true},
		{[]int{math.MaxInt}, true},
		{[]int{-1}, false},
		{[]int{math.MinInt}, false},
		{[]int{-1, 0}, false},
		{[]int{-2, -1}, false},
		{[]int{0, -1}, false},
		{[]int{0, 0, 0}, true},
		{[]int{0, 1, 1, 2, 100}, true},
		{[]int{1, 0}, false},
		{[]int{0, 2, 1}, false},
		{[]int{0, 2, 1, 2}, false},
		{[]int{3, 3, 2}, false},
		{[]int{3, math.MinInt}, false},
		{[]int{1 << 40, 1<<40 - 1}, false},
	} {
		// The steps count for all kinds, and from one task to the next.
		for _, make := range []func(step, task int) api.Event{call, commit, pass} {
			var l []api.Event
			for i, step := range c.steps {
				l = append(l, make(step, i))
			}
			if got := hist.Sound(l); got != c.want {
				t.Errorf("%v: Sound is %v, not %v", l, got, c.want)
			}
		}
	}
}

func TestEarly(t *testing.T) {
	_, all := history()
	for _, c := range []struct {
		name string
		l    []api.Event
		a, b int
		want bool
	}{
		{"nothing", nil, 1, 2, false},
		{"in a history", all, 2, 1, false},
		{"with a later call", append(slices.Clone(all), call(2, 4)), 2, 4, true},
		{"and back", append(slices.Clone(all), call(2, 4)), 4, 2, false},
		{"without a reply", append(slices.Clone(all), call(2, 4)), 1, 4, false},
		{"in one step", []api.Event{reply(0, 1), call(0, 2)}, 1, 2, true},
		{"the call first", []api.Event{call(0, 2), reply(0, 1)}, 1, 2, false},
		{"no reply", []api.Event{call(0, 1), turn(0, 1), call(0, 2)}, 1, 2, false},
		{"no call", []api.Event{call(0, 1), turn(0, 1), reply(0, 1), turn(0, 2)}, 1, 2, false},
		{"the reply of another task", []api.Event{reply(0, 3), call(0, 2)}, 1, 2, false},
		{"the call of another task", []api.Event{reply(0, 1), call(0, 3)}, 1, 2, false},
		{"the last reply is later", []api.Event{reply(0, 1), call(0, 2), reply(0, 1)}, 1, 2, false},
		{"the last call is later", []api.Event{call(0, 2), reply(0, 1), call(0, 2)}, 1, 2, true},
		{"both are twice, the call last", []api.Event{reply(0, 1), call(0, 2), reply(0, 1), call(0, 2)}, 1, 2, true},
		{"both are twice, the reply last", []api.Event{call(0, 2), reply(0, 1), call(0, 2), reply(0, 1)}, 1, 2, false},
		{"the order of the list counts", []api.Event{reply(9, 1), call(0, 2)}, 1, 2, true},
		{"and not the steps", []api.Event{call(9, 2), reply(0, 1)}, 1, 2, false},
		{"others are in between", []api.Event{reply(0, 1), pass(0, 2), commit(0, 1), call(0, 3), turn(0, 3), call(0, 2), turn(0, 2), turn(0, 1)}, 1, 2, true},
		{"a task and itself", []api.Event{call(0, 1), turn(0, 1), reply(0, 1)}, 1, 1, false},
		{"a task that comes again", []api.Event{call(0, 1), turn(0, 1), reply(0, 1), call(0, 1)}, 1, 1, true},
		{"tasks of any number", []api.Event{reply(0, -1), call(0, math.MaxInt)}, -1, math.MaxInt, true},
		{"the task 0 is no other", []api.Event{reply(0, 1), call(0, 2)}, 0, 0, false},
		{"a turn is no reply", []api.Event{turn(0, 1), call(0, 2)}, 1, 2, false},
		{"a turn is no call", []api.Event{reply(0, 1), turn(0, 2)}, 1, 2, false},
	} {
		if got := hist.Early(c.l, c.a, c.b); got != c.want {
			t.Errorf("%s: Early(%d, %d) is %v, not %v", c.name, c.a, c.b, got, c.want)
		}
	}
}

// allowed reports whether the kinds of the events of a task are those of a request as far as it has come.
func allowed(l []api.Event, task int) bool {
	var kinds []int
	for _, e := range l {
		if e.Task == task && e.Kind <= 3 {
			kinds = append(kinds, e.Kind)
		}
	}
	return len(kinds) <= 3 && slices.Equal(kinds, []int{1, 2, 3}[:len(kinds)])
}

// steady reports whether the kinds exist, and the steps never decrease.
func steady(l []api.Event) bool {
	ok := slices.IsSortedFunc(l, func(x, y api.Event) int { return x.Step - y.Step })
	for _, e := range l {
		ok = ok && e.Kind >= 1 && e.Kind <= 5 && e.Step >= 0
	}
	return ok
}

// place returns the index of the last event of this kind and task; -1 if there is none.
func place(l []api.Event, kind, task int) int {
	n := -1
	for i, e := range l {
		if e.Kind == kind && e.Task == task {
			n = i
		}
	}
	return n
}

func TestSoundAndEarlyAreAsTheirWordsSay(t *testing.T) {
	r := rand.New(rand.NewSource(192))
	sound := 0
	for range 20000 {
		l := make([]api.Event, r.Intn(6))
		step := 0
		for i := range l {
			l[i] = api.Event{Step: step, Kind: 1 + r.Intn(5), Task: r.Intn(2)}
			step += r.Intn(2)
		}
		if len(l) > 0 && r.Intn(4) == 0 {
			e := &l[r.Intn(len(l))]
			e.Step += r.Intn(5) - 2
			e.Kind += r.Intn(3) - 1
		}
		before := slices.Clone(l)
		want := steady(l) && allowed(l, 0) && allowed(l, 1)
		if got := hist.Sound(l); got != want {
			t.Fatalf("Sound(%v) is %v", l, got)
		}
		if want && len(l) > 2 {
			sound++
		}
		for a := range 2 {
			for b := range 2 {
				x, y := place(l, 3, a), place(l, 1, b)
				if got := hist.Early(l, a, b); got != (x >= 0 && y >= 0 && x < y) {
					t.Fatalf("Early(%v, %d, %d) is %v", l, a, b, got)
				}
			}
		}
		same(t, "the argument", l, before)
	}
	if sound < 200 {
		t.Errorf("only %d of the lists were sound", sound)
	}
}
