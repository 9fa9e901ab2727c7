package op_test

import (
	"math"
	"math/rand"
	"slices"
	"strings"
	"testing"

	"berthage/api"
	"berthage/core"
	"berthage/job"
	"berthage/lock"
	"berthage/op"
	"berthage/rule"
)

// made returns a core of n nodes.
func made(t *testing.T, n int) *core.Core {
	t.Helper()
	c, e := core.New(n)
	if e != api.OK || c == nil {
		t.Fatalf("New(%d): %v", n, e)
	}
	return c
}

// all performs every part of a Work at once, and returns how many there were.
func all(c *core.Core, w *core.Work) int {
	n := 1
	for !w.Step(c) {
		n++
	}
	return n
}

// ask performs requests at once that must not fail.
func ask(t *testing.T, c *core.Core, l ...api.Request) {
	t.Helper()
	for _, r := range l {
		w := core.NewWork(r)
		if all(c, w); w.Reply().Err != api.OK {
			t.Fatalf("%+v: %+v", r, w.Reply())
		}
	}
}

// place performs a choice at once that must take effect.
func place(t *testing.T, c *core.Core, id int, at int64) {
	t.Helper()
	w := core.NewCommit(api.Choice{Id: id, At: at})
	if all(c, w); !w.OK() {
		t.Fatalf("job %d at %d does not take effect", id, at)
	}
}

// asked returns a valid request for a job.
func asked(width int, limit int64, prio int) api.Request {
	return api.Request{Kind: api.ReqSubmit, User: 7, Width: width, Limit: limit, Prio: prio}
}

// held returns a valid request for a held job.
func held(width int, limit int64, prio int) api.Request {
	r := asked(width, limit, prio)
	r.Held = true
	return r
}

// of returns a request for a job, or one without fields.
func of(kind, id int) api.Request {
	return api.Request{Kind: kind, Id: id}
}

// at returns a request for a node.
func at(kind, n int) api.Request {
	return api.Request{Kind: kind, Node: n}
}

// tick returns a ReqTick.
func tick(by int64) api.Request {
	return api.Request{Kind: api.ReqTick, By: by}
}

// five returns a core of 4 nodes: job 1 runs up to 10, jobs 2 and 3 have plans at 10 and 20, job 4 is held, and job 5 has no plan.
func five(t *testing.T) *core.Core {
	t.Helper()
	c := made(t, 4)
	ask(t, c, asked(2, 10, 0), asked(3, 10, 0), asked(3, 10, 0), held(1, 5, 9), asked(4, 7, 0))
	place(t, c, 1, 0)
	place(t, c, 2, 10)
	place(t, c, 3, 20)
	return c
}

// alike fails the test if two cores differ.
func alike(t *testing.T, a, b *core.Core) {
	t.Helper()
	if a.None() != b.None() {
		t.Fatalf("none %v and %v", a.None(), b.None())
	}
	if a.None() {
		return
	}
	if a.Closed() != b.Closed() || a.Now() != b.Now() || a.Version() != b.Version() || a.Size() != b.Size() {
		t.Fatalf("closed %v and %v, now %d and %d, version %d and %d",
			a.Closed(), b.Closed(), a.Now(), b.Now(), a.Version(), b.Version())
	}
	if !slices.Equal(a.All(), b.All()) {
		t.Fatalf("jobs %+v and %+v", a.All(), b.All())
	}
	for n := range a.Size() {
		if a.State(n) != b.State(n) {
			t.Fatalf("node %d is %d and %d", n, a.State(n), b.State(n))
		}
	}
	if !slices.Equal(a.Steps(), b.Steps()) {
		t.Fatalf("steps %v and %v", a.Steps(), b.Steps())
	}
}

// lanes returns all lanes.
func lanes() []rule.Lane {
	var l []rule.Lane
	for n := range 8 {
		l = append(l, rule.Lane{n&1 > 0, n&2 > 0, n&4 > 0})
	}
	return l
}

// list returns the locks of a lane in order.
func list(l rule.Lane) []int {
	var ks []int
	for k := range 3 {
		if l[k] {
			ks = append(ks, k)
		}
	}
	return ks
}

// owners returns who holds each lock.
func owners(l *lock.Set) [3]int {
	return [3]int{l.Owner(0), l.Owner(1), l.Owner(2)}
}

// keep takes the locks of a lane for an owner.
func keep(t *testing.T, l *lock.Set, who int, lane rule.Lane) {
	t.Helper()
	for _, k := range list(lane) {
		if e := l.Try(k, who); e != api.OK {
			t.Fatalf("Try(%d, %d): %v", k, who, e)
		}
	}
}

// until performs steps up to a stage, and looks at the Hand before each of them.
func until(t *testing.T, h *op.Hand, c *core.Core, l *lock.Set, stage int, look func()) {
	t.Helper()
	for range 2000 {
		if h.Stage() == stage {
			return
		}
		look()
		h.Step(c, l)
	}
	t.Fatalf("stage %d, and never %d", h.Stage(), stage)
}

// noOwners returns numbers that are no owners.
func noOwners() []int {
	return []int{0, -1, -2, -1 << 32, math.MinInt}
}

// waiting fails the test if a Hand does not wait, or if its steps change anything.
func waiting(t *testing.T, h *op.Hand, c *core.Core, l *lock.Set) {
	t.Helper()
	before, by, taken, told := c.Twin(), owners(l), l.Taken(), h.Reply()
	for range 3 {
		if !h.Waits(l) || h.Stage() != 0 || h.Step(c, l) || h.Stage() != 0 {
			t.Fatalf("waits %v, stage %d", h.Waits(l), h.Stage())
		}
	}
	if owners(l) != by || l.Taken() != taken || h.Reply() != told {
		t.Fatalf("owners %v and %v, taken %d and %d, %+v", owners(l), by, l.Taken(), taken, h.Reply())
	}
	alike(t, c, before)
}

// over fails the test if a Hand is not over, or if its steps change anything.
func over(t *testing.T, h *op.Hand, c *core.Core, l *lock.Set) {
	t.Helper()
	before, by, taken, told := c.Twin(), owners(l), l.Taken(), h.Reply()
	for range 3 {
		if h.Waits(l) || h.Waits(nil) || h.Stage() != 5 || h.Step(c, l) || h.Step(nil, nil) {
			t.Fatalf("waits %v, stage %d", h.Waits(l), h.Stage())
		}
	}
	if owners(l) != by || l.Taken() != taken || h.Reply() != told || !h.Done() {
		t.Fatalf("owners %v and %v, taken %d and %d, %+v", owners(l), by, l.Taken(), taken, h.Reply())
	}
	alike(t, c, before)
}

// trace performs all steps of a Hand that has no others beside it. It returns a word for each step: the letter of its stage,
// in upper case if it was reported as that of Turn, and which locks are held after it.
func trace(t *testing.T, h *op.Hand, c *core.Core, l *lock.Set, who int) string {
	t.Helper()
	var words []string
	for range 2000 {
		s := h.Stage()
		if s == 5 {
			over(t, h, c, l)
			return strings.Join(words, " ")
		}
		if s < 0 || s > 5 || h.Waits(l) {
			t.Fatalf("stage %d, waits %v", s, h.Waits(l))
		}
		word := "kupge"[s : s+1]
		if h.Step(c, l) {
			word = strings.ToUpper(word)
		}
		for k, name := range []string{"j", "n", "p"} {
			if l.Owner(k) == who {
				word += name
			} else if l.Owner(k) != 0 {
				t.Fatalf("lock %d is held by %d", k, l.Owner(k))
			}
		}
		words = append(words, word)
	}
	t.Fatal("no end")
	return ""
}

// Promise 17.1.

func TestStagesAreNumbered(t *testing.T) {
	if l := []int{op.Take, op.Turn, op.Parts, op.Give, op.Tell, op.Over}; !slices.Equal(l, []int{0, 1, 2, 3, 4, 5}) {
		t.Error(l)
	}
}

func TestStepsOfRequests(t *testing.T) {
	for _, x := range []struct {
		name string
		r    api.Request
		want string
	}{
		{"the chapter's example", of(api.ReqClock, 0), "kp Up g e"},
		{"a query", of(api.ReqQuery, 1), "kj Uj g e"},
		{"a query that fails", of(api.ReqQuery, 9), "kj Uj g e"},
		{"info", of(api.ReqInfo, 0), "kn Un g e"},
		{"load", of(api.ReqLoad, 0), "kj Uj g e"},
		{"stop", of(api.ReqStop, 0), "U e"},
		{"a kind that does not exist", of(0, 0), "U e"},
		{"a kind after the last one", of(14, 0), "U e"},
		{"submit of a held job", held(1, 1, 0), "kj kjp Ujp gj g e"},
		{"submit that fails", asked(5, 1, 0), "kj kjp Ujp gj g e"},
		{"submit that precedes no plan", asked(1, 1, 0), "kj kjp Ujp pjp gj g e"},
		{"submit that precedes two plans", asked(1, 1, 1), "kj kjp Ujp pjp pjp pjp gj g e"},
		{"release", of(api.ReqRelease, 4), "kj kjp Ujp pjp pjp pjp gj g e"},
		{"release that fails", of(api.ReqRelease, 1), "kj kjp Ujp gj g e"},
		{"hold", of(api.ReqHold, 2), "kj kjp Ujp pjp gj g e"},
		{"cancel", of(api.ReqCancel, 1), "kj kjn kjnp Ujnp pjnp pjnp gjn gj g e"},
		{"complete", of(api.ReqComplete, 1), "kj kjn kjnp Ujnp pjnp pjnp gjn gj g e"},
		{"complete that fails", of(api.ReqComplete, 2), "kj kjn kjnp Ujnp gjn gj g e"},
		{"drain", at(api.ReqDrain, 3), "kj kjn kjnp Ujnp pjnp pjnp gjn gj g e"},
		{"drain that fails", at(api.ReqDrain, 4), "kj kjn kjnp Ujnp gjn gj g e"},
		{"resume that fails", at(api.ReqResume, 0), "kj kjn kjnp Ujnp gjn gj g e"},
		{"tick in one part", tick(9), "kj kjn kjnp Ujnp gjn gj g e"},
		{"tick in four parts", tick(30), "kj kjn kjnp Ujnp pjnp pjnp pjnp gjn gj g e"},
		{"tick that fails", tick(0), "kj kjn kjnp Ujnp gjn gj g e"},
	} {
		t.Run(x.name, func(t *testing.T) {
			for _, who := range []int{1, 2, 64, 1 << 32, math.MaxInt} {
				c, l := five(t), &lock.Set{}
				if got := trace(t, op.New(x.r, who).Hand, c, l, who); got != x.want {
					t.Errorf("owner %d: %s; want %s", who, got, x.want)
				}
			}
		})
	}
}

// The lane of a Hand is what it is given, whatever its work is.
func TestStepsOfLanes(t *testing.T) {
	for lane, want := range map[rule.Lane]string{
		{}:                   "U p p e",
		{true, false, false}: "kj Uj pj pj g e",
		{false, true, false}: "kn Un pn pn g e",
		{false, false, true}: "kp Up pp pp g e",
		{true, true, false}:  "kj kjn Ujn pjn pjn gj g e",
		{true, false, true}:  "kj kjp Ujp pjp pjp gj g e",
		{false, true, true}:  "kn knp Unp pnp pnp gn g e",
		{true, true, true}:   "kj kjn kjnp Ujnp pjnp pjnp gjn gj g e",
	} {
		c, l := five(t), &lock.Set{}
		h := op.NewHand(core.NewWork(of(api.ReqCancel, 2)), 3, lane)
		if got := trace(t, h, c, l, 3); got != want {
			t.Errorf("%v: %s; want %s", lane, got, want)
		}
		if l.Taken() != lane.Len() || !l.Idle() {
			t.Errorf("%v: %d locks were taken, idle %v", lane, l.Taken(), l.Idle())
		}
	}
}

func TestStepsOfChoices(t *testing.T) {
	for _, x := range []struct {
		choice api.Choice
		want   string
		ok     bool
	}{
		{api.Choice{Id: 5, At: 30}, "kj kjn kjnp Ujnp pjnp pjnp pjnp gjn gj g e", true},
		{api.Choice{Id: 5, At: 29}, "kj kjn kjnp Ujnp gjn gj g e", false},
		{api.Choice{Id: 4, At: 40}, "kj kjn kjnp Ujnp gjn gj g e", false},
	} {
		c, l := five(t), &lock.Set{}
		h := op.NewHand(core.NewCommit(x.choice), 1, rule.Every())
		until(t, h, c, l, op.Turn, func() {})
		if h.OK() || !h.Step(c, l) || h.OK() != x.ok || h.Done() == x.ok {
			t.Errorf("%+v: %v", x.choice, h.OK())
		}
		c, l = five(t), &lock.Set{}
		h = op.NewHand(core.NewCommit(x.choice), 1, rule.Every())
		if got := trace(t, h, c, l, 1); got != x.want || h.OK() != x.ok {
			t.Errorf("%+v: %s, %v", x.choice, got, h.OK())
		}
	}
}

// What the core is only matters from the Turn on, and a part is only performed in Turn and in Parts.
func TestEffectBeginsAtTheTurn(t *testing.T) {
	c, l := five(t), &lock.Set{}
	o := op.New(asked(1, 1, 5), 1)
	before := c.Twin()
	for range 2 {
		if o.Step(nil, l) || o.Done() || o.Reply() != (api.Reply{}) {
			t.Fatal(o.Stage(), o.Reply())
		}
	}
	alike(t, c, before)
	twin, w := c.Twin(), core.NewWork(asked(1, 1, 5))
	for part := range 4 {
		stage := op.Parts
		if part == 0 {
			stage = op.Turn
		}
		if o.Stage() != stage || o.Done() || o.Step(c, l) != (part == 0) || o.Done() != w.Step(twin) || o.Reply() != w.Reply() {
			t.Fatal(part, o.Stage(), o.Reply())
		}
		alike(t, c, twin)
	}
	for range 3 {
		if !o.Done() || o.Stage() < op.Give || o.Stage() == op.Over || o.Step(nil, l) {
			t.Fatal(o.Stage())
		}
	}
	alike(t, c, twin)
	over(t, o.Hand, c, l)
}

func TestWaitsForALock(t *testing.T) {
	c, l := made(t, 4), &lock.Set{}
	a, b := op.New(asked(2, 10, 0), 1), op.New(of(api.ReqQuery, 1), 2)
	if a.Waits(l) || b.Waits(l) || a.Step(c, l) || a.Waits(l) {
		t.Fatal(a.Waits(l), b.Waits(l))
	}
	until(t, a.Hand, c, l, op.Tell, func() { waiting(t, b.Hand, c, l) })
	if b.Waits(l) || b.Step(c, l) || b.Stage() != op.Turn || l.Owner(rule.Jobs) != 2 {
		t.Fatal(b.Stage(), owners(l))
	}
	if !b.Step(c, l) || b.Reply().Id != 1 || b.Reply().State != api.Pending {
		t.Fatal(b.Reply())
	}
}

// Of each lane a Hand gets those locks that are before the first one that is held, and goes on when this one is free.
func TestWaitsForEachLock(t *testing.T) {
	for _, lane := range lanes() {
		for _, others := range lanes() {
			c, l := five(t), &lock.Set{}
			keep(t, l, 8, others)
			h := op.NewHand(core.NewWork(tick(1)), 9, lane)
			for _, k := range list(lane) {
				if others[k] {
					waiting(t, h, c, l)
					if e := l.Free(k, 8); e != api.OK {
						t.Fatal(e)
					}
				}
				if h.Stage() != op.Take || h.Waits(l) || h.Step(c, l) || l.Owner(k) != 9 {
					t.Fatalf("%v beside %v: lock %d is of %d", lane, others, k, l.Owner(k))
				}
			}
			by := owners(l)
			if h.Waits(l) || h.Stage() != op.Turn || !h.Step(c, l) || owners(l) != by {
				t.Fatalf("%v beside %v: stage %d, owners %v", lane, others, h.Stage(), owners(l))
			}
			ks := list(lane)
			slices.Reverse(ks)
			for _, k := range ks {
				by[k] = 0
				if h.Waits(l) || h.Stage() != op.Give || h.Step(c, l) || owners(l) != by {
					t.Fatalf("%v beside %v: stage %d, owners %v", lane, others, h.Stage(), owners(l))
				}
			}
			if h.Waits(l) || h.Stage() != op.Tell || h.Step(c, l) || owners(l) != by {
				t.Fatalf("%v beside %v: stage %d, owners %v", lane, others, h.Stage(), owners(l))
			}
			over(t, h, c, l)
		}
	}
}

// A lock of which a Hand has no need does not keep it waiting, and only Take waits.
func TestWaitsOnlyInTake(t *testing.T) {
	c, l := five(t), &lock.Set{}
	keep(t, l, 2, rule.Lane{true, true, false})
	if got := op.New(of(api.ReqClock, 0), 1); got.Waits(l) || got.Step(c, l) || got.Stage() != op.Turn {
		t.Error(got.Stage())
	}
	o, full := op.New(of(api.ReqCancel, 2), 1), &lock.Set{}
	keep(t, full, 2, rule.Every())
	free := &lock.Set{}
	until(t, o.Hand, c, free, op.Over, func() {
		if o.Waits(full) != (o.Stage() == op.Take) || o.Waits(free) {
			t.Errorf("stage %d: waits %v and %v", o.Stage(), o.Waits(full), o.Waits(free))
		}
	})
	if o.Waits(full) {
		t.Error("waits when over")
	}
}

// An owner that already has the next lock waits for itself.
func TestWaitsForItself(t *testing.T) {
	c, l := five(t), &lock.Set{}
	keep(t, l, 1, rule.Lane{true, false, false})
	o := op.New(of(api.ReqLoad, 0), 1)
	waiting(t, o.Hand, c, l)
	l.All(1)
	if got := trace(t, o.Hand, c, l, 1); got != "kj Uj g e" {
		t.Error(got)
	}
}

// Locks are taken in order: one before another that the owner holds cannot be taken, though it is free.
func TestLocksAreTakenInOrder(t *testing.T) {
	c, l := five(t), &lock.Set{}
	keep(t, l, 1, rule.Lane{false, false, true})
	o := op.New(of(api.ReqLoad, 0), 1)
	for range 3 {
		if o.Step(c, l) || o.Stage() != op.Take || owners(l) != [3]int{0, 0, 1} {
			t.Fatal(o.Stage(), owners(l))
		}
	}
}

// A lock that somebody else has released is not released again, and the others are.
func TestGiveGoesOn(t *testing.T) {
	c, l := five(t), &lock.Set{}
	o := op.New(of(api.ReqCancel, 9), 1)
	until(t, o.Hand, c, l, op.Give, func() {})
	if e := l.Free(rule.Nodes, 1); e != api.OK {
		t.Fatal(e)
	}
	keep(t, l, 2, rule.Lane{false, true, false})
	for _, want := range [][3]int{{1, 2, 0}, {1, 2, 0}, {0, 2, 0}, {0, 2, 0}} {
		if o.Step(c, l) || owners(l) != want {
			t.Fatal(owners(l), want)
		}
	}
	over(t, o.Hand, c, l)
}

func TestHandOfNoWork(t *testing.T) {
	done := core.NewWork(of(api.ReqLoad, 0))
	all(five(t), done)
	for _, w := range []*core.Work{nil, {}, done} {
		c, l := five(t), &lock.Set{}
		before, told := c.Twin(), w.Reply()
		h := op.NewHand(w, 1, rule.Needs(api.ReqHold))
		if got := trace(t, h, c, l, 1); got != "kj kjp Ujp gj g e" || h.Reply() != told || h.OK() {
			t.Error(got, h.Reply())
		}
		alike(t, c, before)
		if h = op.NewHand(w, 1, rule.Lane{}); trace(t, h, c, l, 1) != "U e" {
			t.Error("an empty lane")
		}
	}
}

// The first part that a Hand performs is that of Turn, though others were performed before.
func TestHandOfWorkThatHasBegun(t *testing.T) {
	c, l := five(t), &lock.Set{}
	w := core.NewWork(asked(1, 1, 1))
	w.Step(c)
	if got := trace(t, op.NewHand(w, 1, rule.Needs(api.ReqSubmit)), c, l, 1); got != "kj kjp Ujp pjp pjp gj g e" {
		t.Error(got)
	}
}

func TestHandOnACoreThatIsNone(t *testing.T) {
	for _, c := range []*core.Core{nil, {}, {Jobs: job.New()}} {
		for kind := range 15 {
			o, l := op.New(of(kind, 1), 1), &lock.Set{}
			n := len(strings.Fields(trace(t, o.Hand, c, l, 1)))
			if o.Reply() != (api.Reply{Err: api.ErrState}) || o.OK() || n != op.Steps(rule.Needs(kind)) || !l.Idle() {
				t.Errorf("kind %d: %+v, %d steps", kind, o.Reply(), n)
			}
		}
	}
}

// One that is no owner gets no lock, and needs none for an empty lane.
func TestNoOwner(t *testing.T) {
	for _, who := range noOwners() {
		c, l := five(t), &lock.Set{}
		before := c.Twin()
		for _, lane := range lanes()[1:] {
			h := op.NewHand(core.NewWork(of(api.ReqCancel, 1)), who, lane)
			for range 5 {
				if h.Waits(l) || h.Step(c, l) || h.Stage() != op.Take || !l.Idle() || l.Taken() != 0 {
					t.Fatalf("%d: stage %d, owners %v", who, h.Stage(), owners(l))
				}
			}
		}
		alike(t, c, before)
		if got := trace(t, op.New(of(api.ReqStop, 0), who).Hand, c, l, -1); got != "U e" || !c.Closed() {
			t.Error(who, got)
		}
	}
}

func TestNilSet(t *testing.T) {
	c := five(t)
	before := c.Twin()
	o := op.New(of(api.ReqCancel, 1), 1)
	for range 5 {
		if o.Waits(nil) || o.Step(c, nil) || o.Stage() != op.Take {
			t.Fatal(o.Stage())
		}
	}
	alike(t, c, before)
	o = op.New(of(api.ReqStop, 0), 1)
	if o.Waits(nil) || !o.Step(c, nil) || o.Step(c, nil) || !o.Finished() || !c.Closed() {
		t.Error(o.Stage())
	}
}

func TestHandsAreApart(t *testing.T) {
	lane := rule.Needs(api.ReqHold)
	h := op.NewHand(core.NewWork(of(api.ReqLoad, 0)), 1, lane)
	lane[rule.Nodes] = true
	c, l := five(t), &lock.Set{}
	a, b := op.New(of(api.ReqLoad, 0), 1), op.New(of(api.ReqLoad, 0), 1)
	if got := trace(t, h, c, l, 1); got != "kj kjp Ujp gj g e" {
		t.Error(got)
	}
	for _, o := range []*op.Op{a, b} {
		if got := trace(t, o.Hand, c, l, 1); got != "kj Uj g e" {
			t.Error(got)
		}
	}
}

// A Hand performs the very Work that it was given.
func TestHandHasItsWork(t *testing.T) {
	w := core.NewWork(of(api.ReqQuery, 3))
	h := op.NewHand(w, 1, rule.Lane{true, false, false})
	c, l := five(t), &lock.Set{}
	if h.Work != w || w.Done() {
		t.Fatal("another work")
	}
	trace(t, h, c, l, 1)
	if !w.Done() || w.Reply() != h.Reply() || w.Reply().Id != 3 || w.Reply().Plan != 20 {
		t.Errorf("%+v", w.Reply())
	}
}

// Promise 17.2.

func TestSteps(t *testing.T) {
	for lane, want := range map[rule.Lane]int{
		{}: 2, {true, false, false}: 4, {false, true, false}: 4, {false, false, true}: 4,
		{true, true, false}: 6, {true, false, true}: 6, {false, true, true}: 6, {true, true, true}: 8,
	} {
		if n := op.Steps(lane); n != want {
			t.Errorf("Steps(%v) is %d; want %d", lane, n, want)
		}
	}
	if n := op.Steps(rule.Every()); n != 8 {
		t.Errorf("Steps(Every()) is %d", n)
	}
}

func TestRequestIsCleaned(t *testing.T) {
	full := api.Request{Id: 1, User: 3, Width: 2, Limit: 5, Prio: 4, Held: true, Node: 2, By: 6}
	for _, x := range []struct {
		kinds []int
		want  api.Request
	}{
		{[]int{api.ReqSubmit}, api.Request{User: 3, Width: 2, Limit: 5, Prio: 4, Held: true}},
		{[]int{api.ReqCancel, api.ReqHold, api.ReqRelease, api.ReqComplete, api.ReqQuery}, api.Request{Id: 1}},
		{[]int{api.ReqDrain, api.ReqResume}, api.Request{Node: 2}},
		{[]int{api.ReqTick}, api.Request{By: 6}},
		{[]int{api.ReqInfo, api.ReqLoad, api.ReqClock, api.ReqStop, 0, 14, -1, math.MinInt, math.MaxInt}, api.Request{}},
	} {
		for _, kind := range x.kinds {
			full.Kind, x.want.Kind = kind, kind
			c, l := five(t), &lock.Set{}
			o := op.New(full, 1)
			until(t, o.Hand, c, l, op.Over, func() {
				if o.Req() != x.want {
					t.Fatalf("kind %d, stage %d: %+v; want %+v", kind, o.Stage(), o.Req(), x.want)
				}
			})
			twin, w := five(t), core.NewWork(x.want)
			all(twin, w)
			if o.Req() != x.want || o.Reply() != w.Reply() {
				t.Errorf("kind %d: %+v, %+v; want %+v", kind, o.Req(), o.Reply(), w.Reply())
			}
			alike(t, c, twin)
		}
	}
}

// Only those locks are taken that the kind needs, as the table of chapter 9 states them.
func TestLocksOfKinds(t *testing.T) {
	plans, every := []int{0, 2}, []int{0, 1, 2}
	for kind, want := range map[int][]int{
		1: plans, 2: every, 3: plans, 4: plans, 5: every, 6: {0}, 7: every, 8: every, 9: every, 10: {1}, 11: {0}, 12: {2}, 13: nil,
		0: nil, 14: nil, -1: nil, math.MaxInt: nil, math.MinInt: nil, 1 << 32: nil, 1<<32 + 1: nil,
	} {
		c, l, o := five(t), &lock.Set{}, op.New(of(kind, 1), 1)
		until(t, o.Hand, c, l, op.Turn, func() {})
		if got := list(l.Held(1)); !slices.Equal(got, want) {
			t.Errorf("kind %d holds %v; want %v", kind, got, want)
		}
	}
}

func TestFinished(t *testing.T) {
	c, l := five(t), &lock.Set{}
	for _, r := range []api.Request{of(api.ReqClock, 0), asked(1, 1, 1), tick(30), of(0, 0), of(api.ReqStop, 0), of(api.ReqLoad, 0)} {
		o := op.New(r, 1)
		until(t, o.Hand, c, l, op.Over, func() {
			if o.Finished() {
				t.Fatalf("%+v: finished in stage %d", r, o.Stage())
			}
		})
		if !o.Finished() {
			t.Errorf("%+v is not finished", r)
		}
		over(t, o.Hand, c, l)
	}
}

func TestNothing(t *testing.T) {
	c, l := five(t), &lock.Set{}
	keep(t, l, 1, rule.Every())
	before := c.Twin()
	for _, h := range []*op.Hand{nil, {}, {Work: core.NewWork(of(api.ReqCancel, 1))}} {
		for _, set := range []*lock.Set{nil, {}, l} {
			if h.Stage() != op.Over || h.Waits(set) || h.Step(c, set) || h.Step(nil, set) || h.Stage() != op.Over || set.Taken() > 3 {
				t.Error(h.Stage())
			}
		}
	}
	for _, o := range []*op.Op{nil, {}, {Hand: &op.Hand{}}} {
		if !o.Finished() || o.Req() != (api.Request{}) {
			t.Error(o.Finished(), o.Req())
		}
	}
	for _, o := range []*op.Op{{}, {Hand: &op.Hand{}}} {
		if o.Stage() != op.Over || o.Waits(l) || o.Step(c, l) {
			t.Error(o.Stage())
		}
	}
	if owners(l) != [3]int{1, 1, 1} {
		t.Error(owners(l))
	}
	alike(t, c, before)
}

// Promise 17.3.

// mixed returns a request of which most are valid, on a core with a few jobs and 6 nodes.
func mixed(r *rand.Rand) api.Request {
	id, n := r.Intn(12), r.Intn(8)-1
	switch r.Intn(16) {
	case 0, 1, 2, 3:
		x := asked(1+r.Intn(7), int64(r.Intn(12)), r.Intn(4))
		x.Held = r.Intn(5) == 0
		return x
	case 4, 5, 6:
		return tick(int64(r.Intn(9)))
	case 7, 8:
		return of([]int{api.ReqHold, api.ReqRelease}[r.Intn(2)], id)
	case 9, 10:
		return of([]int{api.ReqCancel, api.ReqComplete}[r.Intn(2)], id)
	case 11:
		return at(api.ReqDrain, n)
	case 12:
		return at(api.ReqResume, n)
	case 13:
		return of(api.ReqQuery, id)
	case 14:
		return of(api.ReqInfo+r.Intn(3), 0)
	default:
		return of(r.Intn(40), 0)
	}
}

// works returns a request or a choice as two Works that are the same, with the locks that it needs.
func works(r *rand.Rand) (a, b *core.Work, lane rule.Lane) {
	if r.Intn(3) == 0 {
		x := api.Choice{Id: r.Intn(12), At: int64(r.Intn(120))}
		return core.NewCommit(x), core.NewCommit(x), rule.Every()
	}
	x := mixed(r)
	return core.NewWork(x), core.NewWork(x), rule.Needs(x.Kind)
}

func TestWithoutOthers(t *testing.T) {
	r, most, effects := rand.New(rand.NewSource(17)), 0, 0
	for range 300 {
		c, l, taken := made(t, 6), &lock.Set{}, 0
		for range 40 {
			twin, who := c.Twin(), 1+r.Intn(70)
			a, b, lane := works(r)
			h := op.NewHand(a, who, lane)
			steps := 0
			until(t, h, c, l, op.Over, func() {
				if steps++; h.Waits(l) {
					t.Fatal("waits without others")
				}
			})
			parts := all(twin, b)
			if taken += lane.Len(); l.Taken() != taken || !l.Idle() || steps != op.Steps(lane)+parts-1 {
				t.Fatalf("%d locks, idle %v, %d steps for %d parts", l.Taken(), l.Idle(), steps, parts)
			}
			if h.Reply() != b.Reply() || h.OK() != b.OK() {
				t.Fatalf("%+v, %v; want %+v, %v", h.Reply(), h.OK(), b.Reply(), b.OK())
			}
			alike(t, c, twin)
			most = max(most, parts)
			if h.OK() {
				effects++
			}
		}
	}
	if most < 5 || effects < 300 {
		t.Errorf("at most %d parts, %d choices", most, effects)
	}
}

// A task is a request or a choice, twice: step by step, and at once.
type task struct {
	hand *op.Hand
	work *core.Work
}

// between performs tasks in any order of steps, each of which is performed at once on a twin at its Turn; it returns how often one waited.
func between(t *testing.T, r *rand.Rand, c *core.Core, tasks []task) int {
	t.Helper()
	twin, l, waits := c.Twin(), &lock.Set{}, 0
	for n := 0; len(tasks) > 0; n++ {
		ready := slices.DeleteFunc(slices.Clone(tasks), func(x task) bool { return x.hand.Waits(l) })
		if len(ready) == 0 || n > 20000 {
			t.Fatalf("after %d steps %d of %d tasks are ready", n, len(ready), len(tasks))
		}
		if waits += len(tasks) - len(ready); r.Intn(4) == 0 {
			ready = tasks
		}
		x := ready[r.Intn(len(ready))]
		if x.hand.Step(c, l) {
			all(twin, x.work)
		}
		tasks = slices.DeleteFunc(tasks, func(x task) bool { return x.hand.Stage() == op.Over })
		if x.hand.Stage() == op.Over && (x.hand.Reply() != x.work.Reply() || x.hand.OK() != x.work.OK()) {
			t.Fatalf("%+v, %v; want %+v, %v", x.hand.Reply(), x.hand.OK(), x.work.Reply(), x.work.OK())
		}
	}
	if !l.Idle() {
		t.Fatal(owners(l))
	}
	alike(t, c, twin)
	return waits
}

// With others in between, the replies and the effects are those of the works that are performed at once in the order of their Turns.
func TestWithOthers(t *testing.T) {
	r, waits := rand.New(rand.NewSource(71)), 0
	for range 400 {
		c := made(t, 6)
		for range 4 {
			var tasks []task
			for who := range 1 + r.Intn(10) {
				a, b, lane := works(r)
				tasks = append(tasks, task{op.NewHand(a, who+1, lane), b})
			}
			waits += between(t, r, c, tasks)
		}
	}
	if waits < 1000 {
		t.Errorf("only %d waits", waits)
	}
}
