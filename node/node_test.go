package node_test

import (
	"math"
	"math/rand"
	"testing"

	"berthage/api"
	"berthage/node"
	"berthage/set"
)

const full = set.Set(math.MaxUint64)

// idle returns a table of n nodes, all Idle.
func idle(t *testing.T, n int) *node.Table {
	t.Helper()
	x, e := node.New(n)
	if e != api.OK || x == nil {
		t.Fatalf("of %d: %v", n, e)
	}
	return x
}

// four returns a table of a node of each state: node 0 is Idle, 1 Busy, 2 Draining and 3 Drained.
func four(t *testing.T) *node.Table {
	t.Helper()
	x := idle(t, 4)
	if x.Claim(set.Of(1, 2)) != api.OK || x.Drain(2) != api.OK || x.Drain(3) != api.OK {
		t.Fatal("of a node of each state")
	}
	is(t, x, api.Idle, api.Busy, api.Draining, api.Drained)
	return x
}

// is fails unless the nodes of a table have these states, and all that it tells agrees with them.
func is(t *testing.T, x *node.Table, want ...int) {
	t.Helper()
	model(want).same(t, x)
}

// numbers returns all nodes, and numbers beyond both ends of them.
func numbers() []int {
	l := []int{math.MinInt, math.MinInt + 1, math.MinInt32, -1 << 32, -256, -128, -65, -64, -63}
	for n := -3; n <= 67; n++ {
		l = append(l, n)
	}
	return append(l, 127, 128, 129, 255, 256, 1<<31, 1<<32, 1<<32+1, math.MaxInt-1, math.MaxInt)
}

// model is a table as the document's words define it: a state for each node.
type model []int

// where returns the set of the nodes that have one of these states.
func (m model) where(states ...int) set.Set {
	s := set.Set(0)
	for n, state := range m {
		for _, x := range states {
			if state == x {
				s |= 1 << n
			}
		}
	}
	return s
}

func (m model) count(states ...int) int {
	k := 0
	for s := m.where(states...); s != 0; s /= 2 {
		k += int(s % 2)
	}
	return k
}

// within reports whether s has no node but those of these states.
func (m model) within(s set.Set, states ...int) bool {
	return s&^m.where(states...) == 0
}

func (m model) take(n int) (set.Set, api.Errno) {
	if n < 1 {
		return 0, api.ErrArg
	}
	if n > m.count(api.Idle) {
		return 0, api.ErrFull
	}
	s := set.Set(0)
	for k := 0; n > 0; k++ {
		if m[k] == api.Idle {
			m[k] = api.Busy
			s |= 1 << k
			n--
		}
	}
	return s, api.OK
}

func (m model) claim(s set.Set) api.Errno {
	if s == 0 {
		return api.ErrArg
	}
	if !m.within(s, api.Idle) {
		return api.ErrNode
	}
	for n := range m {
		if s>>n%2 == 1 {
			m[n] = api.Busy
		}
	}
	return api.OK
}

func (m model) give(s set.Set) (int, api.Errno) {
	if !m.within(s, api.Busy, api.Draining) {
		return 0, api.ErrNode
	}
	k := 0
	for n := range m {
		switch {
		case s>>n%2 == 0:
		case m[n] == api.Busy:
			m[n] = api.Idle
			k++
		default:
			m[n] = api.Drained
		}
	}
	return k, api.OK
}

// move replaces the state of node n as pairs of an old and a new one say.
func (m model) move(n int, pairs ...int) api.Errno {
	if n < 0 || n >= len(m) {
		return api.ErrNode
	}
	for i := 0; i < len(pairs); i += 2 {
		if m[n] == pairs[i] {
			m[n] = pairs[i+1]
			return api.OK
		}
	}
	return api.ErrState
}

func (m model) drain(n int) api.Errno {
	return m.move(n, api.Idle, api.Drained, api.Busy, api.Draining)
}

func (m model) resume(n int) api.Errno {
	return m.move(n, api.Drained, api.Idle, api.Draining, api.Busy)
}

// same fails unless a table is the model's.
func (m model) same(t *testing.T, x *node.Table) {
	t.Helper()
	for _, n := range numbers() {
		want := 0
		if n >= 0 && n < len(m) {
			want = m[n]
		}
		if got := x.State(n); got != want {
			t.Errorf("node %d: %d, not %d", n, got, want)
		}
	}
	if got := x.Size(); got != len(m) {
		t.Errorf("size: %d, not %d", got, len(m))
	}
	if got, want := x.Idle(), m.where(api.Idle); got != want {
		t.Errorf("idle: %b, not %b", got, want)
	}
	if got, want := x.Used(), m.where(api.Busy, api.Draining); got != want {
		t.Errorf("used: %b, not %b", got, want)
	}
	a, b, c := x.Counts()
	if a != m.count(api.Idle) || b != m.count(api.Busy, api.Draining) || c != m.count(api.Drained) {
		t.Errorf("counts: %d, %d, %d of %d", a, b, c, m)
	}
}

// Promise 6.1.

func TestNew(t *testing.T) {
	for _, n := range numbers() {
		x, e := node.New(n)
		if n < 1 || n > 64 {
			if x != nil || e != api.ErrArg {
				t.Errorf("of %d: %v, %v", n, x, e)
			}
			continue
		}
		if e != api.OK || x == nil {
			t.Fatalf("of %d: %v", n, e)
		}
		m := make(model, n)
		for k := range m {
			m[k] = api.Idle
		}
		m.same(t, x)
	}
}

func TestNewTablesAreApart(t *testing.T) {
	x, y := idle(t, 2), idle(t, 2)
	x.Take(1)
	x.Drain(1)
	is(t, x, api.Busy, api.Drained)
	is(t, y, api.Idle, api.Idle)
}

func TestEachState(t *testing.T) {
	x := four(t)
	for n, want := range []int{1, 2, 3, 4} {
		if got := x.State(n); got != want {
			t.Errorf("node %d: %d, not %d", n, got, want)
		}
	}
	if x.Size() != 4 || x.Idle() != 0b0001 || x.Used() != 0b0110 {
		t.Errorf("size %d, idle %b, used %b", x.Size(), x.Idle(), x.Used())
	}
	if a, b, c := x.Counts(); a != 1 || b != 2 || c != 1 {
		t.Errorf("counts: %d, %d, %d", a, b, c)
	}
}

// Of 64 nodes the last one is bit 63, and no set has more.
func TestAllNodes(t *testing.T) {
	x := idle(t, 64)
	if x.Idle() != full || x.Used() != 0 {
		t.Errorf("idle %b, used %b", x.Idle(), x.Used())
	}
	if s, e := x.Take(64); s != full || e != api.OK {
		t.Errorf("%b, %v", s, e)
	}
	if a, b, c := x.Counts(); a != 0 || b != 64 || c != 0 || x.Used() != full || x.Idle() != 0 {
		t.Errorf("counts: %d, %d, %d", a, b, c)
	}
	for n := range 64 {
		if e := x.Drain(n); e != api.OK {
			t.Errorf("drain %d: %v", n, e)
		}
	}
	if k, e := x.Give(full); k != 0 || e != api.OK {
		t.Errorf("%d, %v", k, e)
	}
	if a, b, c := x.Counts(); a != 0 || b != 0 || c != 64 {
		t.Errorf("counts: %d, %d, %d", a, b, c)
	}
}

func TestCopy(t *testing.T) {
	x := four(t)
	c := x.Copy()
	if c == nil || c == x {
		t.Fatal("no copy, or the very table")
	}
	is(t, c, api.Idle, api.Busy, api.Draining, api.Drained)
	c.Drain(0)
	c.Give(set.Of(1, 2))
	c.Resume(3)
	is(t, c, api.Drained, api.Idle, api.Drained, api.Idle)
	is(t, x, api.Idle, api.Busy, api.Draining, api.Drained)
	x.Take(1)
	x.Drain(1)
	is(t, x, api.Busy, api.Draining, api.Draining, api.Drained)
	is(t, c, api.Drained, api.Idle, api.Drained, api.Idle)
	is(t, c.Copy(), api.Drained, api.Idle, api.Drained, api.Idle)
}

// Promise 6.2.

func TestTake(t *testing.T) {
	x := idle(t, 4)
	if s, e := x.Take(2); s != 0b0011 || e != api.OK {
		t.Fatalf("%b, %v", s, e)
	}
	is(t, x, api.Busy, api.Busy, api.Idle, api.Idle)
	if s, e := x.Take(2); s != 0b1100 || e != api.OK {
		t.Fatalf("%b, %v", s, e)
	}
	is(t, x, api.Busy, api.Busy, api.Busy, api.Busy)
	if s, e := x.Take(1); s != 0 || e != api.ErrFull {
		t.Errorf("%b, %v", s, e)
	}
}

// Nodes that are used or drained are passed over.
func TestTakeTheLowestThatAreIdle(t *testing.T) {
	x := idle(t, 8)
	x.Claim(set.Of(0, 3, 4))
	x.Drain(1)
	x.Drain(4)
	if s, e := x.Take(3); s != set.Of(2, 5, 6) || e != api.OK {
		t.Fatalf("%b, %v", s, e)
	}
	is(t, x, api.Busy, api.Drained, api.Busy, api.Busy, api.Draining, api.Busy, api.Busy, api.Idle)
	x.Give(set.Of(0, 4))
	if s, e := x.Take(2); s != set.Of(0, 7) || e != api.OK {
		t.Errorf("%b, %v", s, e)
	}
}

func TestTakeOfWrongNumbers(t *testing.T) {
	x, none := four(t), idle(t, 1)
	none.Take(1)
	for _, n := range numbers() {
		want := api.ErrFull
		if n < 1 {
			want = api.ErrArg
		}
		if s, e := none.Take(n); s != 0 || e != want {
			t.Errorf("%d of 0: %b, %v", n, s, e)
		}
		if n == 1 {
			continue
		}
		if s, e := x.Take(n); s != 0 || e != want {
			t.Errorf("%d of 1: %b, %v", n, s, e)
		}
	}
	is(t, x, api.Idle, api.Busy, api.Draining, api.Drained)
	is(t, none, api.Busy)
}

func TestClaim(t *testing.T) {
	x := idle(t, 4)
	if e := x.Claim(set.Of(1, 3)); e != api.OK {
		t.Fatal(e)
	}
	is(t, x, api.Idle, api.Busy, api.Idle, api.Busy)
	if e := x.Claim(set.Of(0)); e != api.OK {
		t.Fatal(e)
	}
	is(t, x, api.Busy, api.Busy, api.Idle, api.Busy)
}

// Among its nodes one that is not Idle is enough.
func TestClaimOfWrongSets(t *testing.T) {
	x := four(t)
	for s, want := range map[set.Set]api.Errno{
		0:                  api.ErrArg,
		set.Of(1):          api.ErrNode,
		set.Of(2):          api.ErrNode,
		set.Of(3):          api.ErrNode,
		set.Of(4):          api.ErrNode,
		set.Of(63):         api.ErrNode,
		set.Of(0, 1):       api.ErrNode,
		set.Of(0, 2):       api.ErrNode,
		set.Of(0, 3):       api.ErrNode,
		set.Of(0, 4):       api.ErrNode,
		set.Of(0, 63):      api.ErrNode,
		set.Of(0, 1, 2, 3): api.ErrNode,
		full:               api.ErrNode,
	} {
		if e := x.Claim(s); e != want {
			t.Errorf("%b: %v, not %v", s, e, want)
		}
	}
	is(t, x, api.Idle, api.Busy, api.Draining, api.Drained)
	x.Claim(1)
	if e := x.Claim(0); e != api.ErrArg {
		t.Errorf("of a table without Idle nodes: %v", e)
	}
}

// The document's example.
func TestGive(t *testing.T) {
	x := idle(t, 4)
	s, _ := x.Take(2)
	if e := x.Drain(1); s != set.Of(0, 1) || e != api.OK {
		t.Fatalf("%b, %v", s, e)
	}
	is(t, x, api.Busy, api.Draining, api.Idle, api.Idle)
	if k, e := x.Give(s); k != 1 || e != api.OK {
		t.Errorf("%d, %v", k, e)
	}
	is(t, x, api.Idle, api.Drained, api.Idle, api.Idle)
	if k, e := x.Give(s); k != 0 || e != api.ErrNode {
		t.Errorf("twice: %d, %v", k, e)
	}
}

// Nodes need not be given back by whom, or together with which, they were taken.
func TestGiveInParts(t *testing.T) {
	x := idle(t, 4)
	x.Take(2)
	x.Claim(set.Of(2))
	if k, e := x.Give(set.Of(1, 2)); k != 2 || e != api.OK {
		t.Errorf("%d, %v", k, e)
	}
	is(t, x, api.Busy, api.Idle, api.Idle, api.Idle)
}

// No node of the empty set is not used.
func TestGiveNothing(t *testing.T) {
	x := four(t)
	if k, e := x.Give(0); k != 0 || e != api.OK {
		t.Errorf("%d, %v", k, e)
	}
	is(t, x, api.Idle, api.Busy, api.Draining, api.Drained)
}

// Of the nodes that are Idle then, only those of the set count.
func TestGiveCountsItsOwn(t *testing.T) {
	x := idle(t, 6)
	x.Claim(set.Of(1, 2, 4))
	x.Drain(4)
	if k, e := x.Give(set.Of(4)); k != 0 || e != api.OK {
		t.Errorf("%d, %v", k, e)
	}
	if k, e := x.Give(set.Of(1)); k != 1 || e != api.OK {
		t.Errorf("%d, %v", k, e)
	}
	is(t, x, api.Idle, api.Idle, api.Busy, api.Idle, api.Drained, api.Idle)
}

func TestGiveOfWrongSets(t *testing.T) {
	x := four(t)
	for _, s := range []set.Set{
		set.Of(0), set.Of(3), set.Of(4), set.Of(63),
		set.Of(0, 1), set.Of(1, 3), set.Of(1, 2, 4), set.Of(1, 2, 63), full,
	} {
		if k, e := x.Give(s); k != 0 || e != api.ErrNode {
			t.Errorf("%b: %d, %v", s, k, e)
		}
	}
	is(t, x, api.Idle, api.Busy, api.Draining, api.Drained)
}

// Promise 6.3.

func TestDrainOfEachState(t *testing.T) {
	x := four(t)
	for n, want := range []api.Errno{api.OK, api.OK, api.ErrState, api.ErrState, api.ErrNode} {
		if e := x.Drain(n); e != want {
			t.Errorf("node %d: %v, not %v", n, e, want)
		}
	}
	is(t, x, api.Drained, api.Draining, api.Draining, api.Drained)
}

func TestResumeOfEachState(t *testing.T) {
	x := four(t)
	for n, want := range []api.Errno{api.ErrState, api.ErrState, api.OK, api.OK, api.ErrNode} {
		if e := x.Resume(n); e != want {
			t.Errorf("node %d: %v, not %v", n, e, want)
		}
	}
	is(t, x, api.Idle, api.Busy, api.Busy, api.Idle)
}

// The document's example.
func TestDrainTwice(t *testing.T) {
	x := idle(t, 4)
	if e := x.Drain(1); e != api.OK {
		t.Error(e)
	}
	if e := x.Drain(1); e != api.ErrState {
		t.Errorf("twice: %v", e)
	}
	if e := x.Drain(4); e != api.ErrNode {
		t.Errorf("node 4 of 4: %v", e)
	}
	is(t, x, api.Idle, api.Drained, api.Idle, api.Idle)
}

// A node that is drained while it is used stays used, and can be had again only after it was resumed.
func TestDrainThenResume(t *testing.T) {
	x := idle(t, 1)
	x.Take(1)
	x.Drain(0)
	is(t, x, api.Draining)
	x.Resume(0)
	is(t, x, api.Busy)
	x.Drain(0)
	x.Give(1)
	is(t, x, api.Drained)
	if e := x.Claim(1); e != api.ErrNode {
		t.Errorf("claim: %v", e)
	}
	x.Resume(0)
	is(t, x, api.Idle)
	if e := x.Claim(1); e != api.OK {
		t.Errorf("claim: %v", e)
	}
}

func TestDrainAndResumeOfNoNode(t *testing.T) {
	for _, size := range []int{1, 4, 63, 64} {
		x := idle(t, size)
		x.Drain(0)
		for _, n := range numbers() {
			if n >= 0 && n < size {
				continue
			}
			if e := x.Drain(n); e != api.ErrNode {
				t.Errorf("drain %d of %d: %v", n, size, e)
			}
			if e := x.Resume(n); e != api.ErrNode {
				t.Errorf("resume %d of %d: %v", n, size, e)
			}
		}
		if a, b, c := x.Counts(); a != size-1 || b != 0 || c != 1 {
			t.Errorf("of %d: %d, %d, %d", size, a, b, c)
		}
	}
}

// Promises 6.1 to 6.3.

// step does something to a table and to its model, and fails unless both answer the same.
func step(t *testing.T, r *rand.Rand, x *node.Table, m model) {
	t.Helper()
	n := r.Intn(len(m)+2) - 1
	s := some(r, m)
	switch r.Intn(6) {
	case 0:
		got, e := x.Take(n)
		if want, f := m.take(n); got != want || e != f {
			t.Errorf("take %d: %b, %v, not %b, %v", n, got, e, want, f)
		}
	case 1:
		if e, f := x.Claim(s), m.claim(s); e != f {
			t.Errorf("claim %b: %v, not %v", s, e, f)
		}
	case 2, 3:
		got, e := x.Give(s)
		if want, f := m.give(s); got != want || e != f {
			t.Errorf("give %b: %d, %v, not %d, %v", s, got, e, want, f)
		}
	case 4:
		if e, f := x.Drain(n), m.drain(n); e != f {
			t.Errorf("drain %d: %v, not %v", n, e, f)
		}
	default:
		if e, f := x.Resume(n), m.resume(n); e != f {
			t.Errorf("resume %d: %v, not %v", n, e, f)
		}
	}
}

// some returns nodes of one kind, often, or else any nodes.
func some(r *rand.Rand, m model) set.Set {
	s := set.Set(r.Uint64() & r.Uint64())
	switch r.Intn(5) {
	case 0, 1:
		return s & m.where(api.Idle)
	case 2, 3:
		return s & m.where(api.Busy, api.Draining)
	default:
		return s >> r.Intn(64)
	}
}

func TestManySteps(t *testing.T) {
	r := rand.New(rand.NewSource(6))
	for _, size := range []int{1, 2, 3, 4, 7, 16, 33, 63, 64} {
		m := make(model, size)
		for n := range m {
			m[n] = api.Idle
		}
		x := idle(t, size)
		for range 1500 {
			step(t, r, x, m)
			m.same(t, x)
			if t.Failed() {
				t.Fatalf("of %d nodes", size)
			}
			if r.Intn(50) == 0 {
				x = x.Copy()
			}
		}
	}
}

// Each call, of each table of up to three nodes in whatever states.
func TestSmallTables(t *testing.T) {
	for size := 1; size <= 3; size++ {
		for code := range 1 << (2 * size) {
			m := make(model, size)
			for n := range m {
				m[n] = api.Idle + code>>(2*n)%4
			}
			calls(t, m)
		}
	}
}

// calls makes each call of a table of its own whose nodes have these states.
func calls(t *testing.T, states model) {
	t.Helper()
	fresh := func() (*node.Table, model) {
		x := idle(t, len(states))
		for n, state := range states {
			if state == api.Busy || state == api.Draining {
				x.Claim(1 << n)
			}
			if state == api.Draining || state == api.Drained {
				x.Drain(n)
			}
		}
		m := append(model(nil), states...)
		m.same(t, x)
		return x, m
	}
	for n := -1; n <= len(states)+1; n++ {
		x, m := fresh()
		got, e := x.Take(n)
		if want, f := m.take(n); got != want || e != f {
			t.Errorf("%d, take %d: %b, %v", states, n, got, e)
		}
		m.same(t, x)
		x, m = fresh()
		if e, f := x.Drain(n), m.drain(n); e != f {
			t.Errorf("%d, drain %d: %v", states, n, e)
		}
		m.same(t, x)
		x, m = fresh()
		if e, f := x.Resume(n), m.resume(n); e != f {
			t.Errorf("%d, resume %d: %v", states, n, e)
		}
		m.same(t, x)
	}
	for s := range set.Set(2) << len(states) {
		x, m := fresh()
		if e, f := x.Claim(s), m.claim(s); e != f {
			t.Errorf("%d, claim %b: %v", states, s, e)
		}
		m.same(t, x)
		x, m = fresh()
		got, e := x.Give(s)
		if want, f := m.give(s); got != want || e != f {
			t.Errorf("%d, give %b: %d, %v", states, s, got, e)
		}
		m.same(t, x)
	}
}

// Promise 6.4.

func TestNoTable(t *testing.T) {
	for name, x := range map[string]*node.Table{"nil": nil, "zero": {}} {
		t.Run(name, func(t *testing.T) {
			for range 2 { // the second time after all that might have made a table of it
				tells(t, x)
				for _, n := range numbers() {
					if s, e := x.Take(n); s != 0 || e != api.ErrState {
						t.Errorf("take %d: %b, %v", n, s, e)
					}
					if e := x.Drain(n); e != api.ErrState {
						t.Errorf("drain %d: %v", n, e)
					}
					if e := x.Resume(n); e != api.ErrState {
						t.Errorf("resume %d: %v", n, e)
					}
				}
				for _, s := range []set.Set{0, 1, 1 << 63, full} {
					if e := x.Claim(s); e != api.ErrState {
						t.Errorf("claim %b: %v", s, e)
					}
					if k, e := x.Give(s); k != 0 || e != api.ErrState {
						t.Errorf("give %b: %d, %v", s, k, e)
					}
				}
			}
		})
	}
}

// tells fails unless all that a table tells is nothing.
func tells(t *testing.T, x *node.Table) {
	t.Helper()
	for _, n := range numbers() {
		if got := x.State(n); got != 0 {
			t.Errorf("node %d: %d", n, got)
		}
	}
	a, b, c := x.Counts()
	if a != 0 || b != 0 || c != 0 || x.Size() != 0 || x.Idle() != 0 || x.Used() != 0 {
		t.Errorf("%d, %d, %d of %d, idle %b, used %b", a, b, c, x.Size(), x.Idle(), x.Used())
	}
	if x.Copy() != nil {
		t.Error("a copy")
	}
}
