package lock_test

import (
	"math"
	"math/rand"
	"slices"
	"testing"

	"berthage/api"
	"berthage/lock"
	"berthage/rule"
)

// hold is a lock and the owner that takes it.
type hold struct{ k, who int }

// made returns a set of which these owners took these locks, one after the other.
func made(t *testing.T, l ...hold) *lock.Set {
	t.Helper()
	s := &lock.Set{}
	for _, h := range l {
		if e := s.Try(h.k, h.who); e != api.OK {
			t.Fatalf("Try(%d, %d): %v", h.k, h.who, e)
		}
	}
	return s
}

// state fails the test if the owners of the locks, or the number of times that a lock was taken, are others.
func state(t *testing.T, s *lock.Set, owners [3]int, taken int) {
	t.Helper()
	for k, who := range owners {
		if got := s.Owner(k); got != who {
			t.Errorf("Owner(%d) is %d, not %d", k, got, who)
		}
	}
	for _, who := range []int{1, 2, 3, 4, 5, 257, 1 << 32, 1<<32 + 1, math.MaxInt, owners[0], owners[1], owners[2]} {
		want := rule.Lane{}
		for k, owner := range owners {
			want[k] = who > 0 && owner == who
		}
		if got := s.Held(who); got != want {
			t.Errorf("Held(%d) is %v, not %v", who, got, want)
		}
	}
	for _, who := range noOwners() {
		if got := s.Held(who); got != (rule.Lane{}) {
			t.Errorf("Held(%d) is %v", who, got)
		}
	}
	if got := s.Taken(); got != taken {
		t.Errorf("Taken is %d, not %d", got, taken)
	}
	if got, want := s.Idle(), owners == [3]int{}; got != want {
		t.Errorf("Idle is %v, not %v", got, want)
	}
}

// noLocks returns numbers that are no locks.
func noLocks() []int {
	return []int{-1, 3, -2, -3, 4, 64, 255, 256, 1 << 32, 1<<32 + 1, -1 << 32, math.MinInt, math.MaxInt}
}

// noOwners returns numbers that are no owners.
func noOwners() []int {
	return []int{0, -1, -2, -256, -1 << 32, math.MinInt + 1, math.MinInt}
}

func TestLocksAreFreeAtFirst(t *testing.T) {
	var s lock.Set
	state(t, &s, [3]int{}, 0)
	for k := range 3 {
		for _, who := range []int{1, 2, 64, 256, 1 << 32, math.MaxInt} {
			s := &lock.Set{}
			if e := s.Free(k, who); e != api.ErrState {
				t.Errorf("Free(%d, %d) of a free lock: %v", k, who, e)
			}
			if n := s.All(who); n != 0 {
				t.Errorf("All(%d) of free locks: %d", who, n)
			}
			state(t, s, [3]int{}, 0)
			if e := s.Try(k, who); e != api.OK {
				t.Errorf("Try(%d, %d): %v", k, who, e)
			}
			var owners [3]int
			owners[k] = who
			state(t, s, owners, 1)
		}
	}
}

func TestTryRefuses(t *testing.T) {
	for _, c := range []struct {
		name   string
		first  []hold
		k, who int
		want   api.Errno
	}{
		{"the example: an earlier lock", []hold{{rule.Nodes, 1}}, rule.Jobs, 1, api.ErrOrder},
		{"the example: the same lock", []hold{{rule.Nodes, 1}}, rule.Nodes, 1, api.ErrOrder},
		{"the example: another owner", []hold{{rule.Nodes, 1}}, rule.Nodes, 2, api.ErrLock},
		{"the chapter's example 1", []hold{{rule.Prof, 1}}, rule.Jobs, 1, api.ErrOrder},
		{"the lock just before", []hold{{rule.Prof, 1}}, rule.Nodes, 1, api.ErrOrder},
		{"the first lock twice", []hold{{rule.Jobs, 1}}, rule.Jobs, 1, api.ErrOrder},
		{"the last lock twice", []hold{{rule.Prof, 1}}, rule.Prof, 1, api.ErrOrder},
		{"between two that are held", []hold{{rule.Jobs, 1}, {rule.Prof, 1}}, rule.Nodes, 1, api.ErrOrder},
		{"the earlier of two that are held", []hold{{rule.Jobs, 1}, {rule.Prof, 1}}, rule.Jobs, 1, api.ErrOrder},
		{"order before another owner", []hold{{rule.Jobs, 2}, {rule.Prof, 1}}, rule.Jobs, 1, api.ErrOrder},
		{"order before another owner, just before", []hold{{rule.Nodes, 2}, {rule.Prof, 1}}, rule.Nodes, 1, api.ErrOrder},
		{"another owner of the first lock", []hold{{rule.Jobs, 2}}, rule.Jobs, 1, api.ErrLock},
		{"another owner of a later lock", []hold{{rule.Jobs, 1}, {rule.Prof, 2}}, rule.Prof, 1, api.ErrLock},
		{"an owner like another one", []hold{{rule.Prof, 1}}, rule.Prof, 1<<32 + 1, api.ErrLock},
		{"an owner like another one, of fewer bits", []hold{{rule.Prof, 1}}, rule.Prof, 257, api.ErrLock},
	} {
		t.Run(c.name, func(t *testing.T) {
			s := made(t, c.first...)
			var owners [3]int
			for _, h := range c.first {
				owners[h.k] = h.who
			}
			if e := s.Try(c.k, c.who); e != c.want {
				t.Errorf("Try(%d, %d): %v, not %v", c.k, c.who, e, c.want)
			}
			state(t, s, owners, len(c.first))
		})
	}
}

func TestTryGoesOn(t *testing.T) {
	s := made(t, hold{rule.Jobs, 1})
	if e := s.Try(rule.Prof, 1); e != api.OK {
		t.Errorf("a lock may be left out: %v", e)
	}
	if e := s.Try(rule.Nodes, 2); e != api.OK {
		t.Errorf("another owner takes what was left out: %v", e)
	}
	state(t, s, [3]int{1, 2, 1}, 3)
	s = made(t, hold{rule.Prof, 1}, hold{rule.Nodes, 2}, hold{rule.Jobs, 3})
	state(t, s, [3]int{3, 2, 1}, 3) // the order is that of each owner, not of all
	if e := s.Free(rule.Prof, 1); e != api.OK {
		t.Fatal(e)
	}
	if e := s.Try(rule.Prof, 2); e != api.OK {
		t.Errorf("a lock that was freed: %v", e)
	}
	state(t, s, [3]int{3, 2, 2}, 4)
}

func TestOrderForgetsWhatWasFreed(t *testing.T) {
	s := made(t, hold{rule.Jobs, 1}, hold{rule.Prof, 1})
	if e := s.Free(rule.Prof, 1); e != api.OK {
		t.Fatal(e)
	}
	if e := s.Try(rule.Nodes, 1); e != api.OK {
		t.Errorf("a lock before one that was freed: %v", e)
	}
	state(t, s, [3]int{1, 1, 0}, 3)
	if n := s.All(1); n != 2 {
		t.Errorf("All is %d", n)
	}
	if e := s.Try(rule.Jobs, 1); e != api.OK {
		t.Errorf("a lock after All: %v", e)
	}
	state(t, s, [3]int{1, 0, 0}, 4)
}

func TestFree(t *testing.T) {
	for _, c := range []struct {
		name   string
		k, who int
		want   api.Errno
		owners [3]int
	}{
		{"the last lock", rule.Prof, 1, api.OK, [3]int{1, 2, 0}},
		{"an earlier lock first", rule.Jobs, 1, api.OK, [3]int{0, 2, 1}},
		{"the lock of another owner", rule.Nodes, 2, api.OK, [3]int{1, 0, 1}},
		{"a lock that another owner holds", rule.Nodes, 1, api.ErrState, [3]int{1, 2, 1}},
		{"a lock that another owner holds, the other way", rule.Jobs, 2, api.ErrState, [3]int{1, 2, 1}},
		{"one that holds nothing", rule.Prof, 3, api.ErrState, [3]int{1, 2, 1}},
	} {
		t.Run(c.name, func(t *testing.T) {
			s := made(t, hold{rule.Jobs, 1}, hold{rule.Nodes, 2}, hold{rule.Prof, 1})
			if e := s.Free(c.k, c.who); e != c.want {
				t.Errorf("Free(%d, %d): %v, not %v", c.k, c.who, e, c.want)
			}
			state(t, s, c.owners, 3)
			if e := s.Free(c.k, c.who); e != api.ErrState {
				t.Errorf("Free(%d, %d) again: %v", c.k, c.who, e)
			}
			state(t, s, c.owners, 3)
		})
	}
}

func TestArguments(t *testing.T) {
	full := []hold{{rule.Jobs, 1}, {rule.Nodes, 2}, {rule.Prof, 1}}
	for _, first := range [][]hold{nil, full} {
		s, owners := made(t, first...), [3]int{}
		for _, h := range first {
			owners[h.k] = h.who
		}
		refused := func(k, who int) {
			t.Helper()
			if e := s.Try(k, who); e != api.ErrArg {
				t.Errorf("Try(%d, %d): %v", k, who, e)
			}
			if e := s.Free(k, who); e != api.ErrArg {
				t.Errorf("Free(%d, %d): %v", k, who, e)
			}
			state(t, s, owners, len(first))
		}
		for _, k := range noLocks() {
			for _, who := range append(noOwners(), 1, 2, 3, math.MaxInt) {
				refused(k, who)
			}
			if who := s.Owner(k); who != 0 {
				t.Errorf("Owner(%d) is %d", k, who)
			}
		}
		for _, who := range noOwners() {
			for k := range 3 {
				refused(k, who)
			}
		}
	}
}

func TestAll(t *testing.T) {
	for _, c := range []struct {
		name   string
		who    int
		n      int
		owners [3]int
	}{
		{"an owner of two locks", 1, 2, [3]int{0, 2, 0}},
		{"an owner of one lock", 2, 1, [3]int{1, 0, 1}},
		{"an owner of none", 3, 0, [3]int{1, 2, 1}},
		{"like an owner", 257, 0, [3]int{1, 2, 1}},
		{"like an owner, of more bits", 1<<32 + 1, 0, [3]int{1, 2, 1}},
	} {
		t.Run(c.name, func(t *testing.T) {
			s := made(t, hold{rule.Jobs, 1}, hold{rule.Nodes, 2}, hold{rule.Prof, 1})
			if n := s.All(c.who); n != c.n {
				t.Errorf("All(%d) is %d, not %d", c.who, n, c.n)
			}
			state(t, s, c.owners, 3)
			if n := s.All(c.who); n != 0 {
				t.Errorf("All(%d) again is %d", c.who, n)
			}
			state(t, s, c.owners, 3)
		})
	}
	s := made(t, hold{rule.Jobs, 7}, hold{rule.Nodes, 7}, hold{rule.Prof, 7})
	state(t, s, [3]int{7, 7, 7}, 3)
	if n := s.All(7); n != 3 || !s.Idle() {
		t.Errorf("All of the only owner: %d, Idle %v", n, s.Idle())
	}
	state(t, s, [3]int{}, 3)
}

func TestAllOfNoOwner(t *testing.T) {
	for _, first := range [][]hold{nil, {{rule.Nodes, 1}}, {{rule.Jobs, 1}, {rule.Nodes, 2}, {rule.Prof, 1}}} {
		s, owners := made(t, first...), [3]int{}
		for _, h := range first {
			owners[h.k] = h.who
		}
		for _, who := range noOwners() {
			if n := s.All(who); n != 0 {
				t.Errorf("All(%d) is %d", who, n)
			}
			state(t, s, owners, len(first))
		}
	}
}

func TestNilSet(t *testing.T) {
	var s *lock.Set
	for _, k := range append(noLocks(), 0, 1, 2) {
		for _, who := range append(noOwners(), 1, 2, math.MaxInt) {
			if e := s.Try(k, who); e != api.ErrArg {
				t.Errorf("Try(%d, %d): %v", k, who, e)
			}
			if e := s.Free(k, who); e != api.ErrArg {
				t.Errorf("Free(%d, %d): %v", k, who, e)
			}
			if n := s.All(who); n != 0 {
				t.Errorf("All(%d) is %d", who, n)
			}
			if l := s.Held(who); l != (rule.Lane{}) {
				t.Errorf("Held(%d) is %v", who, l)
			}
		}
		if who := s.Owner(k); who != 0 {
			t.Errorf("Owner(%d) is %d", k, who)
		}
	}
	if s.Taken() != 0 || !s.Idle() {
		t.Errorf("Taken %d, Idle %v", s.Taken(), s.Idle())
	}
}

func TestSetsAreApart(t *testing.T) {
	a := made(t, hold{rule.Jobs, 1})
	b := &lock.Set{}
	state(t, b, [3]int{}, 0)
	if e := b.Try(rule.Jobs, 2); e != api.OK {
		t.Fatal(e)
	}
	state(t, a, [3]int{1, 0, 0}, 1)
	l := a.Held(1)
	l[rule.Prof] = true
	state(t, a, [3]int{1, 0, 0}, 1)
}

// model is a set of locks as the chapter tells it: what each owner holds, as lists.
type model struct {
	held  map[int][]int
	taken int
}

// try takes lock k for who, or returns the first error that applies.
func (m *model) try(k, who int) api.Errno {
	if !slices.Contains([]int{0, 1, 2}, k) || who < 1 {
		return api.ErrArg
	}
	if slices.ContainsFunc(m.held[who], func(h int) bool { return h >= k }) {
		return api.ErrOrder
	}
	for other, l := range m.held {
		if other != who && slices.Contains(l, k) {
			return api.ErrLock
		}
	}
	m.held[who] = append(m.held[who], k)
	m.taken++
	return api.OK
}

// free releases lock k, or returns the first error that applies.
func (m *model) free(k, who int) api.Errno {
	if !slices.Contains([]int{0, 1, 2}, k) || who < 1 {
		return api.ErrArg
	}
	i := slices.Index(m.held[who], k)
	if i < 0 {
		return api.ErrState
	}
	m.held[who] = slices.Delete(m.held[who], i, i+1)
	return api.OK
}

// all releases all locks of who, and returns their number.
func (m *model) all(who int) int {
	n := len(m.held[who])
	delete(m.held, who)
	return n
}

// owners returns who holds each lock.
func (m *model) owners() [3]int {
	var o [3]int
	for who, l := range m.held {
		for _, k := range l {
			o[k] = who
		}
	}
	return o
}

func TestSetIsTheModel(t *testing.T) {
	r := rand.New(rand.NewSource(16))
	for range 60 {
		s, m := &lock.Set{}, &model{held: map[int][]int{}}
		for range 200 {
			k, who := r.Intn(5)-1, r.Intn(6)-1
			switch r.Intn(6) {
			case 0, 1, 2:
				if got, want := s.Try(k, who), m.try(k, who); got != want {
					t.Fatalf("Try(%d, %d): %v, not %v", k, who, got, want)
				}
			case 3, 4:
				if got, want := s.Free(k, who), m.free(k, who); got != want {
					t.Fatalf("Free(%d, %d): %v, not %v", k, who, got, want)
				}
			default:
				if got, want := s.All(who), m.all(who); got != want {
					t.Fatalf("All(%d): %d, not %d", who, got, want)
				}
			}
			state(t, s, m.owners(), m.taken)
			if t.Failed() {
				t.FailNow()
			}
		}
	}
}

// wants returns each list of what the owners from 1 on may want in order: a lock, -1 for none.
func wants(s *lock.Set, owners int) [][]int {
	l := [][]int{nil}
	for who := 1; who <= owners; who++ {
		var more [][]int
		for _, w := range l {
			for k := -1; k < 3; k++ {
				twin := *s
				if e := twin.Try(k, who); k < 0 || e == api.OK || e == api.ErrLock {
					more = append(more, append(slices.Clone(w), k))
				}
			}
		}
		l = more
	}
	return l
}

// goesOn reports whether an owner that holds or wants a lock can continue: it gets what it wants, or wants no more than it holds.
func goesOn(s *lock.Set, want []int) bool {
	for i, k := range want {
		twin := *s
		if k < 0 && s.Held(i+1).Len() > 0 || k >= 0 && twin.Try(k, i+1) == api.OK {
			return true
		}
	}
	return false
}

func TestOneOwnerCanAlwaysContinue(t *testing.T) {
	const owners = 4
	n := 0
	for code := range 5 * 5 * 5 {
		s := &lock.Set{}
		for k, who := range []int{code % 5, code / 5 % 5, code / 25} {
			if who > 0 && s.Try(k, who) != api.OK {
				t.Fatalf("owner %d does not get lock %d", who, k)
			}
		}
		for _, want := range wants(s, owners) {
			none := s.Idle() && !slices.ContainsFunc(want, func(k int) bool { return k >= 0 })
			if goesOn(s, want) == none {
				t.Fatalf("owners %d %d %d want %v: none %v", s.Owner(0), s.Owner(1), s.Owner(2), want, none)
			}
			n++
		}
	}
	if n < 7000 {
		t.Errorf("only %d states", n)
	}
}

func TestCrossedOwnersAreRefused(t *testing.T) {
	s := made(t, hold{rule.Jobs, 1}, hold{rule.Prof, 2})
	if e := s.Try(rule.Prof, 1); e != api.ErrLock {
		t.Errorf("the first owner waits: %v", e)
	}
	if e := s.Try(rule.Jobs, 2); e != api.ErrOrder {
		t.Errorf("the second owner would wait for the first: %v", e)
	}
	if n := s.All(2); n != 1 {
		t.Errorf("All is %d", n)
	}
	if e := s.Try(rule.Prof, 1); e != api.OK {
		t.Errorf("the first owner goes on: %v", e)
	}
}
