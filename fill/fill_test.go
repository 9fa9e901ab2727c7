package fill_test

import (
	"math"
	"math/rand"
	"slices"
	"strconv"
	"strings"
	"testing"

	"berthage/api"
	"berthage/core"
	"berthage/fill"
	"berthage/job"
	"berthage/lock"
	"berthage/op"
	"berthage/pass"
	"berthage/plan"
	"berthage/prof"
	"berthage/rule"
	"berthage/seq"
)

// sched returns a scheduler of n nodes that has performed these requests, none of which may fail.
func sched(t *testing.T, n int, l ...api.Request) *seq.Sched {
	t.Helper()
	s, e := seq.New(n)
	if e != api.OK {
		t.Fatalf("New(%d): %v", n, e)
	}
	ask(t, s, l...)
	return s
}

// ask performs requests at once that must not fail.
func ask(t *testing.T, s *seq.Sched, l ...api.Request) {
	t.Helper()
	for i, r := range s.All(l...) {
		if r.Err != api.OK {
			t.Fatalf("%+v: %+v", l[i], r)
		}
	}
}

// place performs a choice at once that must take effect.
func place(t *testing.T, s *seq.Sched, id int, at int64) {
	t.Helper()
	if !s.Commit(api.Choice{Id: id, At: at}) {
		t.Fatalf("job %d at %d does not take effect", id, at)
	}
}

// asked returns a valid request for a job.
func asked(width int, limit int64, prio int) api.Request {
	return api.Request{Kind: api.ReqSubmit, User: 7, Width: width, Limit: limit, Prio: prio}
}

// held returns a valid request for a held job.
func held(width int, limit int64, prio int) api.Request {
	r := asked(width, limit, prio)
	r.Held = true
	return r
}

// of returns a request for a job, or one without fields.
func of(kind, id int) api.Request {
	return api.Request{Kind: kind, Id: id}
}

// at returns a request for a node.
func at(kind, n int) api.Request {
	return api.Request{Kind: kind, Node: n}
}

// tick returns a ReqTick.
func tick(by int64) api.Request {
	return api.Request{Kind: api.ReqTick, By: by}
}

// three returns a scheduler of 4 nodes with jobs of 3, 3 and 1 nodes for 10: a pass lets them start at 0, 10 and 0.
func three(t *testing.T) *seq.Sched {
	t.Helper()
	return sched(t, 4, asked(3, 10, 0), asked(3, 10, 0), asked(1, 10, 0))
}

// started returns a pass that New must not refuse.
func started(t *testing.T, who, some, depth int) *fill.Fill {
	t.Helper()
	f, e := fill.New(who, some, depth)
	if e != api.OK || f == nil {
		t.Fatalf("New(%d, %d, %d): %v, %v", who, some, depth, f, e)
	}
	return f
}

// alike fails the test if two cores differ.
func alike(t *testing.T, a, b *core.Core) {
	t.Helper()
	if a.Closed() != b.Closed() || a.Now() != b.Now() || a.Version() != b.Version() || a.Size() != b.Size() {
		t.Fatalf("closed %v and %v, now %d and %d, version %d and %d",
			a.Closed(), b.Closed(), a.Now(), b.Now(), a.Version(), b.Version())
	}
	if !slices.Equal(a.All(), b.All()) {
		t.Fatalf("jobs %+v and %+v", a.All(), b.All())
	}
	for n := range a.Size() {
		if a.State(n) != b.State(n) {
			t.Fatalf("node %d is %d and %d", n, a.State(n), b.State(n))
		}
	}
	if !slices.Equal(a.Steps(), b.Steps()) {
		t.Fatalf("steps %v and %v", a.Steps(), b.Steps())
	}
}

// owners returns who holds each lock.
func owners(l *lock.Set) [3]int {
	return [3]int{l.Owner(0), l.Owner(1), l.Owner(2)}
}

// keep takes locks for an owner.
func keep(t *testing.T, l *lock.Set, who int, ks ...int) {
	t.Helper()
	for _, k := range ks {
		if e := l.Try(k, who); e != api.OK {
			t.Fatalf("Try(%d, %d): %v", k, who, e)
		}
	}
}

// tried is a choice that was tried, and whether it took effect.
type tried struct {
	choice api.Choice
	ok     bool
}

// step performs a step, which must return zeros unless it was a Turn, and adds the choice that it tried to a list.
func step(t *testing.T, f *fill.Fill, c *core.Core, l *lock.Set, told []tried) []tried {
	t.Helper()
	x, turn, ok := f.Step(c, l)
	if turn {
		return append(told, tried{x, ok})
	}
	if x != (api.Choice{}) || ok {
		t.Fatalf("no Turn, but %+v, %v", x, ok)
	}
	return told
}

// until performs steps up to a stage, and looks at the pass before each of them. It returns the choices that were tried.
func until(t *testing.T, f *fill.Fill, c *core.Core, l *lock.Set, stage int, look func()) []tried {
	t.Helper()
	var told []tried
	for range 2000 {
		if f.Stage() == stage {
			return told
		}
		look()
		told = step(t, f, c, l, told)
	}
	t.Fatalf("stage %d, and never %d", f.Stage(), stage)
	return nil
}

// to performs steps up to a stage.
func to(t *testing.T, f *fill.Fill, c *core.Core, l *lock.Set, stage int) []tried {
	t.Helper()
	return until(t, f, c, l, stage, func() {})
}

// trace performs all steps of a pass that has no others beside it. It returns a word for each step: its stage, the first
// letters of the locks that are held after it, and, for a Turn, the job and + or -, as its choice takes effect or not.
func trace(t *testing.T, f *fill.Fill, c *core.Core, l *lock.Set, who int) string {
	t.Helper()
	var words []string
	for range 2000 {
		stage := f.Stage()
		if stage == 8 {
			over(t, f, c, l)
			return strings.Join(words, " ")
		}
		if stage < 0 || stage > 8 || f.Waits(l) {
			t.Fatalf("stage %d, waits %v", stage, f.Waits(l))
		}
		told, word := step(t, f, c, l, nil), strconv.Itoa(stage)
		for k, name := range []string{"j", "n", "p"} {
			if l.Owner(k) == who {
				word += name
			} else if l.Owner(k) != 0 {
				t.Fatalf("lock %d is held by %d", k, l.Owner(k))
			}
		}
		for _, x := range told {
			word += strconv.Itoa(x.choice.Id) + map[bool]string{true: "+", false: "-"}[x.ok]
		}
		words = append(words, word)
	}
	t.Fatal("no end")
	return ""
}

// The words of trace for what comes before the first choice, but for the steps of Plan, for a choice of this job that takes
// effect, and for one that does not.
const before = "0j 1j 2 3p 4p 5 "

func yes(id int) string {
	return " 7j 7jn 7jnp 7jnp" + strconv.Itoa(id) + "+ 7jnp 7jnp 7jnp 7jn 7j 7"
}

func no(id int) string {
	return " 7j 7jn 7jnp 7jnp" + strconv.Itoa(id) + "- 7jn 7j 7"
}

// still fails the test if steps of a pass change anything.
func still(t *testing.T, f *fill.Fill, c *core.Core, l *lock.Set) {
	t.Helper()
	var twin *core.Core
	if !c.None() {
		twin = c.Twin()
	}
	stage, by, n, taken, stale, left := f.Stage(), owners(l), l.Taken(), f.Taken(), f.Stale(), f.Left()
	for range 3 {
		if told := step(t, f, c, l, nil); len(told) > 0 {
			t.Fatalf("a Turn: %+v", told)
		}
	}
	if f.Stage() != stage || owners(l) != by || l.Taken() != n || f.Taken() != taken || f.Stale() != stale || f.Left() != left {
		t.Fatalf("stage %d, then %d; owners %v, then %v", stage, f.Stage(), by, owners(l))
	}
	if twin != nil {
		alike(t, c, twin)
	}
}

// waiting fails the test if a pass does not wait, or if its steps change anything.
func waiting(t *testing.T, f *fill.Fill, c *core.Core, l *lock.Set) {
	t.Helper()
	if !f.Waits(l) {
		t.Fatalf("does not wait in stage %d", f.Stage())
	}
	still(t, f, c, l)
}

// over fails the test if a pass is not over, or if its steps change anything.
func over(t *testing.T, f *fill.Fill, c *core.Core, l *lock.Set) {
	t.Helper()
	full := &lock.Set{}
	keep(t, full, 99, 0, 1, 2)
	if f.Stage() != 8 || f.Waits(l) || f.Waits(full) || f.Waits(nil) {
		t.Fatalf("stage %d", f.Stage())
	}
	still(t, f, c, l)
	still(t, f, nil, nil)
}

// Promise 18.1.

func TestStagesAreNumbered(t *testing.T) {
	l := []int{fill.LockJobs, fill.CopyJobs, fill.FreeJobs, fill.LockProf, fill.CopyProf, fill.FreeProf, fill.Plan, fill.Commit, fill.Over}
	if !slices.Equal(l, []int{0, 1, 2, 3, 4, 5, 6, 7, 8}) {
		t.Error(l)
	}
}

func TestNew(t *testing.T) {
	for _, x := range [][3]int{{1, 1, 1}, {1, 64, 64}, {2, 1, 64}, {64, 64, 1}, {65, 9, 9}, {1 << 32, 1, 1}, {math.MaxInt, 1, 1}} {
		f := started(t, x[0], x[1], x[2])
		if f.Stage() != fill.LockJobs || f.Taken() != 0 || f.Stale() || f.Waits(&lock.Set{}) || f.Waits(nil) {
			t.Errorf("%v: stage %d", x, f.Stage())
		}
	}
}

func TestNewIsRefused(t *testing.T) {
	for _, x := range [][3]int{{0, 1, 1}, {-1, 1, 1}, {math.MinInt, 1, 1}, {-1 << 32, 64, 64}, {0, 0, 0}, {0, 65, 65}} {
		refused(t, x)
	}
	for _, n := range []int{0, -1, 65, 66, -64, 1 << 32, 1<<32 + 1, math.MaxInt, math.MinInt} {
		refused(t, [3]int{1, n, 1})
		refused(t, [3]int{1, n, 64})
		refused(t, [3]int{1, 1, n})
		refused(t, [3]int{1, 64, n})
		refused(t, [3]int{1, n, n})
	}
}

// refused fails the test if New does not return ErrArg alone.
func refused(t *testing.T, x [3]int) {
	t.Helper()
	if f, e := fill.New(x[0], x[1], x[2]); f != nil || e != api.ErrArg {
		t.Errorf("New%v: %v, %v", x, f, e)
	}
}

func TestWithoutJobs(t *testing.T) {
	for _, s := range []*seq.Sched{sched(t, 4), sched(t, 64), sched(t, 1, tick(5)), sched(t, 4, held(1, 1, 1), at(api.ReqDrain, 1))} {
		twin := s.Core.Twin()
		for _, some := range []int{1, 64} {
			l, f := &lock.Set{}, started(t, 3, some, 9)
			if got := trace(t, f, s.Core, l, 3); got != before+"6" {
				t.Error(got)
			}
			if f.Taken() != 0 || f.Stale() || l.Taken() != 2 || len(f.Choices()) != 0 {
				t.Error(f.Taken(), f.Stale(), l.Taken())
			}
			alike(t, s.Core, twin)
		}
	}
}

// The example of chapter 15, with the steps of Plan for each number of items at a time.
func TestSteps(t *testing.T) {
	for _, x := range []struct {
		some, depth int
		want        string
	}{
		{1, 64, before + "6 6 6" + yes(1) + yes(2) + yes(3)},
		{2, 64, before + "6 6" + yes(1) + yes(2) + yes(3)},
		{3, 64, before + "6" + yes(1) + yes(2) + yes(3)},
		{4, 64, before + "6" + yes(1) + yes(2) + yes(3)},
		{64, 64, before + "6" + yes(1) + yes(2) + yes(3)},
		{1, 3, before + "6 6 6" + yes(1) + yes(2) + yes(3)},
		{1, 2, before + "6 6" + yes(1) + yes(2)},
		{2, 2, before + "6" + yes(1) + yes(2)},
		{64, 1, before + "6" + yes(1)},
		{1, 1, before + "6" + yes(1)},
	} {
		for _, who := range []int{1, 7, math.MaxInt} {
			s, l := three(t), &lock.Set{}
			f := started(t, who, x.some, x.depth)
			if got := trace(t, f, s.Core, l, who); got != x.want {
				t.Errorf("%d of %d at a time: %s; want %s", x.some, x.depth, got, x.want)
			}
			if n := strings.Count(x.want, "+"); f.Taken() != n || l.Taken() != 2+3*n || f.Stale() || !l.Idle() {
				t.Errorf("%d of %d at a time: %d were taken", x.some, x.depth, f.Taken())
			}
		}
	}
}

// A pass that has items, but no choices, is over after Plan.
func TestNoChoices(t *testing.T) {
	planned, never := three(t), sched(t, 4, at(api.ReqDrain, 2), asked(4, 1, 9), asked(4, 1, 9))
	to(t, started(t, 1, 2, 64), planned.Core, &lock.Set{}, fill.Over)
	for s, want := range map[*seq.Sched]string{planned: "6", never: "6 6"} {
		l, f, twin := &lock.Set{}, started(t, 1, 1, 64), s.Core.Twin()
		if got := trace(t, f, s.Core, l, 1); got != before+want || f.Stale() || f.Taken() != 0 || l.Taken() != 2 {
			t.Error(got)
		}
		alike(t, s.Core, twin)
	}
}

// The items are planned in the order of chapter 7, and those beyond the depth are not.
func TestOrderAndDepth(t *testing.T) {
	for depth, want := range map[int]string{1: "4", 2: "46", 3: "461", 4: "4612", 5: "46125", 6: "46125", 64: "46125"} {
		s := sched(t, 9, asked(1, 1, 5), asked(1, 1, 5), held(1, 1, 99), asked(1, 1, 7), asked(1, 1, 0), asked(1, 1, 6))
		f, got := started(t, 1, 2, depth), ""
		for _, x := range to(t, f, s.Core, &lock.Set{}, fill.Over) {
			if !x.ok || x.choice.At != 0 {
				t.Errorf("depth %d: %+v", depth, x)
			}
			got += strconv.Itoa(x.choice.Id)
		}
		if got != want || f.Taken() != len(want) {
			t.Errorf("depth %d: %s; want %s", depth, got, want)
		}
		if p, _, r := s.Jobs.Counts(); p != 5-len(want) || r != len(want) {
			t.Errorf("depth %d: %d wait, %d run", depth, p, r)
		}
	}
}

func TestMostItems(t *testing.T) {
	s := sched(t, 1)
	for range 64 {
		ask(t, s, asked(1, 1, 0))
	}
	f, l := started(t, 1, 5, 64), &lock.Set{}
	to(t, f, s.Core, l, fill.Plan)
	for n := range 13 {
		if f.Stage() != fill.Plan || f.Left() != 64-5*n || len(f.Choices()) != 5*n || !l.Idle() || l.Taken() != 2 {
			t.Fatalf("after %d steps: stage %d, %d left", n, f.Stage(), f.Left())
		}
		f.Step(nil, nil)
	}
	if f.Stage() != fill.Commit || f.Left() != 0 || len(f.Choices()) != 64 {
		t.Fatal(f.Stage(), f.Left())
	}
	for n, x := range to(t, f, s.Core, l, fill.Over) {
		if x != (tried{api.Choice{Id: n + 1, At: int64(n)}, true}) {
			t.Fatal(n, x)
		}
	}
	if f.Taken() != 64 || l.Taken() != 2+3*64 {
		t.Error(f.Taken(), l.Taken())
	}
}

// Jobs and profile are what they are at the two steps that copy them, and the first of them takes nothing of the other.
func TestWhenItCopies(t *testing.T) {
	for stage, want := range []string{"12345", "12345", "1234", "1234", "1234", "1234", "1234", "1234"} {
		s := sched(t, 8, asked(1, 10, 0), asked(1, 10, 0), asked(1, 10, 0), asked(1, 10, 0))
		f, l := started(t, 1, 64, 64), &lock.Set{}
		to(t, f, s.Core, l, stage)
		ask(t, s, asked(1, 10, 0))
		got := ""
		for _, x := range to(t, f, s.Core, l, fill.Over) {
			got += strconv.Itoa(x.choice.Id)
		}
		if got != want {
			t.Errorf("submitted in stage %d: %s; want %s", stage, got, want)
		}
	}
	// A node that is drained changes the profile, but no job.
	for stage := range fill.Over {
		s := sched(t, 4, asked(4, 10, 0))
		f, l := started(t, 1, 64, 64), &lock.Set{}
		to(t, f, s.Core, l, stage)
		ask(t, s, at(api.ReqDrain, 3))
		told, late := to(t, f, s.Core, l, fill.Over), stage > fill.CopyProf
		if late != slices.Equal(told, []tried{{choice: api.Choice{Id: 1}}}) || late != (len(told) > 0) || f.Stale() != late {
			t.Errorf("drained in stage %d: %v, stale %v", stage, told, f.Stale())
		}
	}
}

// What a pass has copied stays as it is, whatever becomes of the jobs.
func TestCopiesStay(t *testing.T) {
	s := sched(t, 4, asked(1, 10, 0), asked(1, 10, 0), asked(1, 10, 0), asked(1, 10, 0))
	f, l := started(t, 1, 1, 64), &lock.Set{}
	to(t, f, s.Core, l, fill.FreeJobs)
	ask(t, s, of(api.ReqHold, 1), of(api.ReqCancel, 2), asked(1, 10, 9), asked(2, 5, 3))
	to(t, f, s.Core, l, fill.Plan)
	ask(t, s, tick(3), at(api.ReqDrain, 0), at(api.ReqDrain, 1))
	to(t, f, s.Core, l, fill.Commit)
	want := []api.Choice{{Id: 1}, {Id: 2}, {Id: 3}, {Id: 4}}
	if !slices.Equal(f.Choices(), want) || f.Now() != 0 || f.Profile.Free(0) != 0 {
		t.Fatal(f.Choices(), f.Now())
	}
	if told := to(t, f, s.Core, l, fill.Over); len(told) != 4 || f.Taken() != 0 || !f.Stale() {
		t.Error(told)
	}
}

// A job that has a plan is planned again, and has a choice only if it can be earlier.
func TestJobsWithPlans(t *testing.T) {
	s := sched(t, 4, asked(4, 10, 0), asked(4, 10, 0), asked(2, 10, 0), asked(1, 5, 0))
	place(t, s, 1, 10)
	place(t, s, 2, 25)
	place(t, s, 3, 0)
	f, l := started(t, 1, 2, 64), &lock.Set{}
	if got := trace(t, f, s.Core, l, 1); got != before+"6 6"+yes(2)+yes(4) {
		t.Error(got)
	}
	if want := []api.Choice{{Id: 2, At: 20}, {Id: 4, At: 0}}; !slices.Equal(f.Choices(), want) {
		t.Error(f.Choices())
	}
	j, _ := s.Get(2)
	k, _ := s.Get(4)
	if j.Plan != 20 || j.State != api.Pending || k.State != api.Running || k.Nodes != 4 {
		t.Errorf("%+v, %+v", j, k)
	}
}

// A pass waits in LockJobs, in LockProf, and for each lock of each choice, and nowhere else.
func TestWaits(t *testing.T) {
	s, l := three(t), &lock.Set{}
	f, full := started(t, 9, 1, 64), &lock.Set{}
	keep(t, full, 8, 0, 1, 2)
	var waits []int
	until(t, f, s.Core, l, fill.Over, func() {
		if f.Waits(l) || f.Waits(nil) {
			t.Fatalf("stage %d: waits for nothing", f.Stage())
		}
		if !f.Waits(full) {
			return
		}
		waits = append(waits, f.Stage())
		next := l.Held(9).Len()
		if f.Stage() == fill.LockProf {
			next = rule.Prof
		}
		for k := range rule.Count {
			others := &lock.Set{}
			keep(t, others, 8, k)
			if f.Waits(others) != (k == next) {
				t.Fatalf("stage %d: lock %d, but the next one is %d", f.Stage(), k, next)
			}
		}
		keep(t, l, 8, next)
		waiting(t, f, s.Core, l)
		l.All(8)
	})
	if want := []int{0, 3, 7, 7, 7, 7, 7, 7, 7, 7, 7}; !slices.Equal(waits, want) || f.Taken() != 3 {
		t.Error(waits, f.Taken())
	}
}

// A pass holds no lock while it plans, nor between its choices, so that others can go on there.
func TestOthersGoOn(t *testing.T) {
	s, l := three(t), &lock.Set{}
	f, n := started(t, 1, 1, 64), 0
	until(t, f, s.Core, l, fill.Over, func() {
		if f.Stage() != fill.Plan && (f.Stage() != fill.Commit || !l.Idle()) {
			return
		}
		o := op.New(of(api.ReqLoad, 0), 2)
		for !o.Finished() {
			if o.Waits(l) {
				t.Fatalf("a request waits in stage %d", f.Stage())
			}
			if o.Step(s.Core, l); l.Owner(rule.Jobs) == 2 && f.Stage() == fill.Commit {
				waiting(t, f, s.Core, l)
			}
		}
		n++
	})
	if n != 3+3 || f.Taken() != 3 {
		t.Error(n, f.Taken())
	}
}

// An owner that already has the next lock waits for itself.
func TestWaitsForItself(t *testing.T) {
	s, l := three(t), &lock.Set{}
	f := started(t, 1, 1, 1)
	for _, stage := range []int{fill.LockJobs, fill.LockProf, fill.Commit} {
		to(t, f, s.Core, l, stage)
		keep(t, l, 1, []int{0, 0, 0, 2, 0, 0, 0, 0}[stage])
		waiting(t, f, s.Core, l)
		l.All(1)
	}
	if told := to(t, f, s.Core, l, fill.Over); len(told) != 1 || !told[0].ok {
		t.Error(told)
	}
}

// Locks are taken in order: one before another that the owner holds cannot be taken, though it is free.
func TestLocksAreTakenInOrder(t *testing.T) {
	s, l := three(t), &lock.Set{}
	keep(t, l, 1, rule.Prof)
	f := started(t, 1, 1, 1)
	still(t, f, s.Core, l)
	if f.Stage() != fill.LockJobs || owners(l) != [3]int{0, 0, 1} {
		t.Error(f.Stage(), owners(l))
	}
}

// A lock that somebody else has released is not released again.
func TestFreeGoesOn(t *testing.T) {
	s, l := three(t), &lock.Set{}
	f := started(t, 1, 1, 1)
	for _, x := range [][2]int{{fill.FreeJobs, rule.Jobs}, {fill.FreeProf, rule.Prof}} {
		to(t, f, s.Core, l, x[0])
		if e := l.Free(x[1], 1); e != api.OK {
			t.Fatal(e)
		}
		keep(t, l, 2, x[1])
		by := owners(l)
		if step(t, f, s.Core, l, nil); f.Stage() != x[0]+1 || owners(l) != by {
			t.Fatal(f.Stage(), owners(l))
		}
		l.All(2)
	}
}

func TestNilSet(t *testing.T) {
	s := three(t)
	f := started(t, 1, 1, 1)
	if f.Waits(nil) {
		t.Error("waits")
	}
	still(t, f, s.Core, nil)
	l := &lock.Set{}
	for _, stage := range []int{fill.LockProf, fill.Commit} {
		to(t, f, s.Core, l, stage)
		if f.Waits(nil) {
			t.Errorf("waits in stage %d", stage)
		}
		still(t, f, s.Core, nil)
	}
	if told := to(t, f, s.Core, l, fill.Over); len(told) != 1 || f.Taken() != 1 {
		t.Error(told)
	}
}

// nones returns cores that no call returned.
func nones(t *testing.T) []*core.Core {
	profile, e := prof.New(4)
	if e != api.OK {
		t.Fatal(e)
	}
	jobs := job.New()
	jobs.Submit(asked(1, 1, 1))
	return []*core.Core{nil, {}, {Jobs: jobs}, {Profile: profile}, {Jobs: jobs, Profile: profile}}
}

func TestOnACoreThatIsNone(t *testing.T) {
	for _, c := range nones(t) {
		l, f := &lock.Set{}, started(t, 2, 1, 64)
		if got := trace(t, f, c, l, 2); got != before+"6" || f.Taken() != 0 || f.Stale() || f.Left() != 0 {
			t.Error(got)
		}
	}
}

// A core that is None at some step is as one without jobs, without a profile, or on which no choice takes effect.
func TestOnACoreThatIsNoneForAWhile(t *testing.T) {
	for i := range nones(t) {
		for stage, want := range []string{"123", "", "123", "123", "", "123", "123"} {
			s, c, l, got := three(t), nones(t)[i], &lock.Set{}, ""
			f := started(t, 1, 64, 64)
			to(t, f, s.Core, l, stage)
			step(t, f, c, l, nil)
			for _, x := range to(t, f, s.Core, l, fill.Over) {
				got += strconv.Itoa(x.choice.Id)
			}
			if got != want || f.Taken() != len(want) || f.Stale() || !l.Idle() {
				t.Errorf("core %d, stage %d: %s; want %s", i, stage, got, want)
			}
		}
		s, c, l := three(t), nones(t)[i], &lock.Set{}
		f := started(t, 1, 64, 64)
		to(t, f, s.Core, l, fill.Commit)
		if got := trace(t, f, c, l, 1); got != strings.TrimSpace(no(1)+no(2)+no(3)) || f.Taken() != 0 {
			t.Errorf("core %d: %s", i, got)
		}
	}
}

// On a closed core there are choices, but none takes effect.
func TestOnAClosedCore(t *testing.T) {
	s, l := three(t), &lock.Set{}
	ask(t, s, of(api.ReqStop, 0))
	twin := s.Core.Twin()
	f := started(t, 1, 2, 64)
	if got := trace(t, f, s.Core, l, 1); got != before+"6 6"+no(1)+no(2)+no(3) || f.Taken() != 0 || f.Stale() {
		t.Error(got)
	}
	alike(t, s.Core, twin)
}

// The planner's calls are those of the pass from its beginning on.
func TestPlannerBeforeTheProfile(t *testing.T) {
	s, l := three(t), &lock.Set{}
	f := started(t, 1, 1, 64)
	until(t, f, s.Core, l, fill.FreeProf, func() {
		if f.Left() != 0 || f.Next(3) != 0 || len(f.Choices()) != 0 || f.Now() != 0 || f.Version() != 0 || len(f.Steps()) != 0 {
			t.Fatalf("stage %d: %v", f.Stage(), f.Choices())
		}
		_, e := f.Earliest(0, 1, 1)
		if f.Copy() != nil || f.Free(0) != 0 || f.Least(0, 1) != 0 || f.Add(0, 1, 1) != api.ErrState || e != api.ErrState ||
			f.Reserve(api.Span{}) != api.ErrState || f.Release(api.Span{}) != api.ErrState || f.Advance(1) != api.ErrState {
			t.Fatalf("stage %d: there is a profile", f.Stage())
		}
	})
	if f.Left() != 3 || f.Profile.Free(0) != 4 || f.Version() != s.Version() {
		t.Error(f.Left(), f.Steps())
	}
}

// The planner is the pass's own: what it reserves is not reserved in the core.
func TestPlannerIsApart(t *testing.T) {
	s, l := three(t), &lock.Set{}
	twin := s.Core.Twin()
	f := started(t, 1, 1, 64)
	to(t, f, s.Core, l, fill.Commit)
	alike(t, s.Core, twin)
	if want := []api.Step{{At: 0, Free: 0}, {At: 10, Free: 1}, {At: 20, Free: 4}}; !slices.Equal(f.Steps(), want) || f.Left() != 0 {
		t.Error(f.Steps(), f.Left())
	}
	want := []api.Choice{{Id: 1, At: 0}, {Id: 2, At: 10}, {Id: 3, At: 0}}
	if f.Choices()[0] = (api.Choice{}); !slices.Equal(f.Choices(), want) {
		t.Error(f.Choices())
	}
	// What was planned from outside counts as planned.
	f = started(t, 1, 1, 64)
	to(t, f, s.Core, l, fill.Plan)
	if n := f.Next(2); n != 2 || f.Stage() != fill.Plan {
		t.Error(n, f.Stage())
	}
	step(t, f, s.Core, l, nil)
	if f.Stage() != fill.Commit || !slices.Equal(f.Choices(), want) {
		t.Error(f.Stage(), f.Choices())
	}
}

func TestPassesAreApart(t *testing.T) {
	s, l := three(t), &lock.Set{}
	a, b := started(t, 1, 1, 64), started(t, 2, 64, 2)
	to(t, a, s.Core, l, fill.Plan)
	if b.Stage() != fill.LockJobs || b.Left() != 0 {
		t.Fatal(b.Stage())
	}
	if got := trace(t, b, s.Core, l, 2); got != before+"6"+yes(1)+yes(2) {
		t.Error(got)
	}
	if got := trace(t, a, s.Core, l, 1); got != "6 6 6"+no(1)+no(2)+yes(3) || !a.Stale() || b.Stale() || a.Taken() != 1 || b.Taken() != 2 {
		t.Error(got, a.Stale(), b.Stale())
	}
}

// Promise 18.2.

// The chapter's example: a job is cancelled after Plan.
func TestJobIsCancelledAfterPlan(t *testing.T) {
	s, l := sched(t, 4, asked(3, 10, 0), asked(1, 10, 0)), &lock.Set{}
	f := started(t, 7, 1, 9)
	to(t, f, s.Core, l, fill.Commit)
	ask(t, s, of(api.ReqCancel, 1))
	if got := trace(t, f, s.Core, l, 7); got != strings.TrimSpace(no(1)+yes(2)) || f.Taken() != 1 {
		t.Error(got, f.Taken())
	}
	// A job without a plan takes nothing of the profile.
	if f.Stale() {
		t.Error("stale")
	}
	if j, _ := s.Get(2); j.State != api.Running || j.Nodes != 1 {
		t.Errorf("%+v", j)
	}
}

// A choice counts from its Turn on, if it takes effect.
func TestTaken(t *testing.T) {
	s, l := three(t), &lock.Set{}
	f, taken, turns := started(t, 1, 1, 64), 0, 0
	to(t, f, s.Core, l, fill.Commit)
	ask(t, s, of(api.ReqHold, 2))
	for f.Stage() != fill.Over {
		if f.Taken() != taken {
			t.Fatalf("stage %d: %d were taken; want %d", f.Stage(), f.Taken(), taken)
		}
		_, turn, ok := f.Step(s.Core, l)
		if turn {
			turns++
		}
		if ok {
			taken++
		}
	}
	if f.Taken() != 2 || taken != 2 || turns != 3 {
		t.Error(f.Taken(), taken, turns)
	}
}

// The work of a choice is that of chapter 12: its first part is the Turn, and each of the others a step.
func TestPartsOfAChoice(t *testing.T) {
	s, l := three(t), &lock.Set{}
	f := started(t, 1, 64, 64)
	to(t, f, s.Core, l, fill.Commit)
	for _, x := range []api.Choice{{Id: 1, At: 0}, {Id: 2, At: 10}, {Id: 3, At: 0}} {
		twin, w := s.Core.Twin(), core.NewCommit(x)
		for range 3 {
			f.Step(nil, l)
		}
		if told := step(t, f, s.Core, l, nil); len(told) != 1 || told[0] != (tried{x, true}) || w.Step(twin) {
			t.Fatal(told)
		}
		for range 3 {
			alike(t, s.Core, twin)
			f.Step(s.Core, l)
			w.Step(twin)
		}
		alike(t, s.Core, twin)
		for range 3 {
			f.Step(nil, l)
		}
	}
	over(t, f, s.Core, l)
}

// A pass is stale only if the profile is changed after it was copied, and before the Turn of the first choice.
func TestStale(t *testing.T) {
	for _, x := range []struct {
		name    string
		stage   int
		more    int // steps in this stage before the others come
		request api.Request
		want    bool
	}{
		{"in LockJobs", fill.LockJobs, 0, tick(1), false},
		{"in CopyJobs", fill.CopyJobs, 0, tick(1), false},
		{"in FreeJobs", fill.FreeJobs, 0, tick(1), false},
		{"in LockProf", fill.LockProf, 0, tick(1), false},
		{"in CopyProf", fill.CopyProf, 0, tick(1), false},
		{"in FreeProf", fill.FreeProf, 0, tick(1), true},
		{"in Plan", fill.Plan, 0, tick(1), true},
		{"later in Plan", fill.Plan, 2, tick(1), true},
		{"before the first lock of the first choice", fill.Commit, 0, tick(1), true},
		{"before the first Turn", fill.Commit, 3, tick(1), true},
		{"after the first Turn", fill.Commit, 4, tick(1), false},
		{"before the second choice", fill.Commit, 10, tick(1), false},
		{"before the second Turn", fill.Commit, 13, tick(1), false},
		{"a drain", fill.Plan, 0, at(api.ReqDrain, 3), true},
		{"a plan that is released", fill.Plan, 0, of(api.ReqHold, 4), true},
		{"a plan that is dropped", fill.Plan, 0, asked(1, 1, 9), true},
		{"a job without a plan that is cancelled", fill.Plan, 0, of(api.ReqCancel, 1), false},
		{"a job that precedes nothing", fill.Plan, 0, asked(1, 1, 0), false},
		{"a query", fill.Plan, 0, of(api.ReqQuery, 1), false},
		{"the end", fill.Plan, 0, of(api.ReqStop, 0), false},
	} {
		t.Run(x.name, func(t *testing.T) {
			s, l := three(t), &lock.Set{}
			ask(t, s, asked(1, 10, 0))
			place(t, s, 4, 50)
			f := started(t, 1, 1, 64)
			to(t, f, s.Core, l, x.stage)
			for range x.more {
				f.Step(s.Core, l)
			}
			ask(t, s, x.request)
			to(t, f, s.Core, l, fill.Over)
			if f.Stale() != x.want {
				t.Errorf("stale %v; want %v", f.Stale(), x.want)
			}
		})
	}
}

// A pass becomes stale at the Turn of its first choice, even if this one does not take effect, and stays so.
func TestStaleFromTheFirstTurnOn(t *testing.T) {
	for _, others := range []api.Request{at(api.ReqDrain, 3), tick(1)} {
		s, l := three(t), &lock.Set{}
		f, turns := started(t, 1, 1, 64), 0
		to(t, f, s.Core, l, fill.Plan)
		ask(t, s, others)
		for f.Stage() != fill.Over {
			if f.Stale() != (turns > 0) {
				t.Fatalf("stage %d: stale %v", f.Stage(), f.Stale())
			}
			if _, turn, _ := f.Step(s.Core, l); turn {
				turns++
			}
		}
		if over(t, f, s.Core, l); !f.Stale() || turns != 3 {
			t.Error(f.Stale(), turns)
		}
	}
}

// The version counts, not what the profile states: something that was changed back has changed.
func TestStaleByVersion(t *testing.T) {
	s, l := three(t), &lock.Set{}
	f := started(t, 1, 1, 64)
	to(t, f, s.Core, l, fill.Commit)
	steps := s.Steps()
	ask(t, s, at(api.ReqDrain, 0), at(api.ReqResume, 0))
	if !slices.Equal(s.Steps(), steps) {
		t.Fatal(s.Steps())
	}
	told := to(t, f, s.Core, l, fill.Over)
	if !f.Stale() || f.Taken() != 3 || len(told) != 3 {
		t.Error(f.Stale(), told)
	}
}

// One that has no choices has no Turn at which it could be stale.
func TestNotStaleWithoutChoices(t *testing.T) {
	s, l := sched(t, 4, held(1, 1, 1)), &lock.Set{}
	f := started(t, 1, 1, 64)
	to(t, f, s.Core, l, fill.Plan)
	ask(t, s, tick(1))
	if told := to(t, f, s.Core, l, fill.Over); len(told) != 0 || f.Stale() {
		t.Error(told, f.Stale())
	}
}

func TestNothing(t *testing.T) {
	s, l := three(t), &lock.Set{}
	full := &lock.Set{}
	keep(t, full, 1, 0, 1, 2)
	twin := s.Core.Twin()
	for _, f := range []*fill.Fill{nil, {}, {Planner: &plan.Planner{}}} {
		for _, set := range []*lock.Set{nil, l, full} {
			for _, c := range []*core.Core{nil, {}, s.Core} {
				x, turn, ok := f.Step(c, set)
				if x != (api.Choice{}) || turn || ok || f.Stage() != fill.Over || f.Taken() != 0 || f.Stale() || f.Waits(set) {
					t.Errorf("%+v, %v, %v, stage %d", x, turn, ok, f.Stage())
				}
			}
		}
	}
	if !l.Idle() || l.Taken() != 0 || owners(full) != [3]int{1, 1, 1} {
		t.Error(owners(l), owners(full))
	}
	alike(t, s.Core, twin)
}

// Promise 18.3.

// mixed returns a request of which most are valid, on a scheduler with a few jobs and 6 nodes.
func mixed(r *rand.Rand) api.Request {
	id, n := r.Intn(16), r.Intn(8)-1
	switch r.Intn(16) {
	case 0, 1, 2, 3, 4, 5:
		x := asked(1+r.Intn(7), int64(r.Intn(12)), r.Intn(4))
		x.Held = r.Intn(6) == 0
		return x
	case 6, 7:
		return tick(int64(r.Intn(6)))
	case 8, 9:
		return of([]int{api.ReqHold, api.ReqRelease}[r.Intn(2)], id)
	case 10, 11:
		return of([]int{api.ReqCancel, api.ReqComplete}[r.Intn(2)], id)
	case 12:
		return at(api.ReqDrain, n)
	case 13, 14:
		return at(api.ReqResume, n)
	default:
		return of([]int{api.ReqQuery, api.ReqInfo, api.ReqLoad, api.ReqClock}[r.Intn(4)], id)
	}
}

// strewn returns a scheduler of 6 nodes after some requests and choices.
func strewn(t *testing.T, r *rand.Rand) *seq.Sched {
	t.Helper()
	s := sched(t, 6)
	for range r.Intn(40) {
		if s.Do(mixed(r)); r.Intn(2) == 0 {
			s.Commit(api.Choice{Id: r.Intn(16), At: s.Now() + int64(r.Intn(40))})
		}
	}
	return s
}

func TestIsAPass(t *testing.T) {
	r, taken, items := rand.New(rand.NewSource(18)), 0, 0
	for range 2000 {
		s := strewn(t, r)
		twin, l := s.Twin(), &lock.Set{}
		if r.Intn(20) == 0 {
			ask(t, s, of(api.ReqStop, 0))
			ask(t, twin, of(api.ReqStop, 0))
		}
		some, depth, who := 1+r.Intn(64), 1+r.Intn(64), 1+r.Intn(70)
		if r.Intn(3) > 0 {
			some, depth = 1+r.Intn(4), 1+r.Intn(12)
		}
		n := min(depth, len(s.Items()))
		want, e := pass.Run(twin, depth)
		if e != api.OK {
			t.Fatal(e)
		}
		f, steps := started(t, who, some, depth), 0
		told := until(t, f, s.Core, l, fill.Over, func() {
			if steps++; f.Waits(l) {
				t.Fatal("waits without others")
			}
		})
		alike(t, s.Core, twin.Core)
		var chosen []api.Choice
		for _, x := range told {
			chosen = append(chosen, x.choice)
		}
		if !slices.Equal(chosen, want.Chosen) || !slices.Equal(f.Choices(), want.Chosen) || f.Taken() != want.Taken || f.Stale() {
			t.Fatalf("%v, %d were taken, stale %v; want %+v", told, f.Taken(), f.Stale(), want)
		}
		if all := 6 + max(1, (n+some-1)/some) + 7*len(chosen) + 3*want.Taken; steps != all || !l.Idle() || l.Taken() != 2+3*len(chosen) {
			t.Fatalf("%d steps for %d items, %d at a time; want %d", steps, n, some, all)
		}
		taken += want.Taken
		items = max(items, n)
	}
	if taken < 1000 || items < 8 {
		t.Errorf("%d were taken, at most %d items", taken, items)
	}
}

// Promise 18.4.

// A choice takes effect exactly if it can, whatever was done between its steps.
func TestTakesEffectIfItCan(t *testing.T) {
	r, done, failed, stale := rand.New(rand.NewSource(184)), 0, 0, 0
	for range 1500 {
		s, l := strewn(t, r), &lock.Set{}
		f, often := started(t, 1, 1+r.Intn(5), 64), 2+r.Intn(30)
		changed, turns, version := false, 0, 0
		for f.Stage() != fill.Over {
			// Not between the parts of a choice, where others are kept out.
			if l.Owner(rule.Prof) == 0 && r.Intn(often) == 0 {
				s.Do(mixed(r))
			}
			fits := map[api.Choice]bool{}
			for _, x := range f.Choices() {
				fits[x] = s.Fits(x)
			}
			if f.Stage() == fill.CopyProf {
				version = s.Version()
			}
			now := s.Version()
			x, turn, ok := f.Step(s.Core, l)
			if !turn {
				continue
			}
			if ok != fits[x] {
				t.Fatalf("%+v takes effect: %v", x, ok)
			}
			if turns++; turns == 1 {
				changed = now != version
			}
			if ok {
				done++
			} else {
				failed++
			}
		}
		if f.Stale() != changed {
			t.Fatalf("stale %v; want %v", f.Stale(), changed)
		}
		if changed {
			stale++
		}
		if !slices.Equal(s.Steps(), s.Should()) {
			t.Fatal(s.Steps(), s.Should())
		}
	}
	if done < 1000 || failed < 100 || stale < 100 {
		t.Errorf("%d took effect, %d did not, %d were stale", done, failed, stale)
	}
}

// task is a request or a pass.
type task struct {
	op   *op.Op
	fill *fill.Fill
}

// waits reports whether a task waits.
func (x task) waits(l *lock.Set) bool {
	if x.op != nil {
		return x.op.Waits(l)
	}
	return x.fill.Waits(l)
}

// over reports whether a task is over.
func (x task) over() bool {
	return (x.op == nil || x.op.Finished()) && x.fill.Stage() == fill.Over
}

// step performs a step of a task, and at its Turn the same on a scheduler at once. It returns the reply that was due.
func (x task) step(t *testing.T, c *core.Core, l *lock.Set, s *seq.Sched, due api.Reply) api.Reply {
	t.Helper()
	if x.op == nil {
		if y, turn, ok := x.fill.Step(c, l); turn && s.Commit(y) != ok {
			t.Fatalf("%+v takes effect: %v", y, ok)
		}
		return due
	}
	if x.op.Step(c, l) {
		return s.Do(x.op.Req())
	}
	return due
}

// between performs tasks in any order of steps, and at once on a twin in the order of their Turns. It returns how often one
// waited, how many choices took effect, and how many passes were stale.
func between(t *testing.T, r *rand.Rand, c *core.Core, tasks []task) (int, int, int) {
	t.Helper()
	twin, l, due := seq.Over(c.Twin()), &lock.Set{}, make([]api.Reply, len(tasks))
	waits, taken, stale := 0, 0, 0
	for n := 0; ; n++ {
		var left, ready []int
		for i, x := range tasks {
			if x.over() {
				continue
			}
			if left = append(left, i); !x.waits(l) {
				ready = append(ready, i)
			}
		}
		if len(left) == 0 {
			break
		}
		if len(ready) == 0 || n > 20000 {
			t.Fatalf("after %d steps %d of %d tasks are ready", n, len(ready), len(left))
		}
		if waits += len(left) - len(ready); r.Intn(4) == 0 {
			ready = left
		}
		i := ready[r.Intn(len(ready))]
		due[i] = tasks[i].step(t, c, l, twin, due[i])
	}
	for i, x := range tasks {
		if x.op != nil && x.op.Reply() != due[i] {
			t.Fatalf("%+v: %+v; want %+v", x.op.Req(), x.op.Reply(), due[i])
		}
		if x.fill != nil {
			taken += x.fill.Taken()
		}
		if x.fill.Stale() {
			stale++
		}
	}
	if !l.Idle() || !slices.Equal(c.Steps(), c.Should()) {
		t.Fatal(owners(l), c.Steps(), c.Should())
	}
	alike(t, c, twin.Core)
	return waits, taken, stale
}

// With requests and other passes in between, step by step under locks, all is as if it were performed at once.
func TestWithOthers(t *testing.T) {
	r, waits, taken, stale := rand.New(rand.NewSource(81)), 0, 0, 0
	for range 600 {
		c := strewn(t, r).Core
		for range 3 {
			var tasks []task
			for who := range 1 + r.Intn(8) {
				if r.Intn(3) == 0 {
					tasks = append(tasks, task{fill: started(t, who+1, 1+r.Intn(5), 1+r.Intn(20))})
				} else {
					tasks = append(tasks, task{op: op.New(mixed(r), who+1)})
				}
			}
			w, n, s := between(t, r, c, tasks)
			waits, taken, stale = waits+w, taken+n, stale+s
		}
	}
	if waits < 1000 || taken < 1000 || stale < 100 {
		t.Errorf("%d waits, %d were taken, %d were stale", waits, taken, stale)
	}
}
