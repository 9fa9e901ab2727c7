package order_test

import (
	"math"
	"math/rand"
	"slices"
	"testing"

	"berthage/api"
	"berthage/order"
)

// job returns a job of which only what the order depends on is set.
func job(prio, id int) api.Job {
	return api.Job{Prio: prio, Id: id}
}

// marked returns a job that has a number by which it is told from those that are equal to it.
func marked(prio, id, mark int) api.Job {
	return api.Job{Prio: prio, Id: id, User: mark}
}

// precedes is the order as the document's words define it.
func precedes(a, b api.Job) bool {
	if a.Prio > b.Prio {
		return true
	}
	return a.Prio == b.Prio && a.Id < b.Id
}

// equal reports whether none of two jobs precedes the other one.
func equal(a, b api.Job) bool {
	return a.Prio == b.Prio && a.Id == b.Id
}

// sorted returns the jobs in order: each of them is placed behind all that it does not precede.
func sorted(l []api.Job) []api.Job {
	var s []api.Job
	for _, j := range l {
		i := len(s)
		for i > 0 && precedes(j, s[i-1]) {
			i--
		}
		s = slices.Insert(s, i, j)
	}
	return s
}

// edges returns jobs whose Prio and Id lie at, and beyond, all limits; many of them differ in one only.
func edges() []api.Job {
	numbers := []int{
		math.MinInt, math.MinInt + 1, math.MinInt32, -1001, -2, -1, 0, 1, 2, 999, 1000, 1001, 1024, 1025,
		math.MaxInt32, 1 << 32, 1<<32 + 1, math.MaxInt - 1, math.MaxInt,
	}
	var l []api.Job
	for _, prio := range numbers {
		for _, id := range numbers {
			l = append(l, job(prio, id))
		}
	}
	return l
}

// lists returns lists of jobs of many lengths, mixed, ascending and descending, of which some have equal jobs.
func lists() [][]api.Job {
	r := rand.New(rand.NewSource(7))
	l := [][]api.Job{nil, {}, edges()}
	for length := range 70 {
		for _, kinds := range []int{1, 2, 5, 1000} {
			mixed := make([]api.Job, length)
			for i := range mixed {
				mixed[i] = marked(r.Intn(kinds), r.Intn(kinds), i+1)
			}
			up := sorted(mixed)
			down := slices.Clone(up)
			slices.Reverse(down)
			l = append(l, mixed, up, down)
		}
	}
	mixed := edges()
	r.Shuffle(len(mixed), func(i, k int) { mixed[i], mixed[k] = mixed[k], mixed[i] })
	return append(l, mixed)
}

// other returns the job with each field changed on which the order does not depend.
func other(j api.Job) api.Job {
	return api.Job{
		Id: j.Id, Prio: j.Prio, User: j.User + 1, Width: j.Width - 1, Limit: j.Limit + 1, State: j.State - 1,
		Start: j.Start + 1, End: j.End - 1, Plan: j.Plan + 1, Nodes: ^j.Nodes,
	}
}

// Promise 7.1.

// The document's example.
func TestPrecedes(t *testing.T) {
	first, second, third := job(5, 2), job(5, 3), job(4, 1)
	for _, x := range []struct {
		a, b api.Job
		want int
	}{
		{first, second, -1}, {first, third, -1}, {second, third, -1},
		{second, first, 1}, {third, first, 1}, {third, second, 1},
		{first, first, 0}, {second, second, 0}, {third, third, 0},
	} {
		if got := order.Compare(x.a, x.b); got != x.want {
			t.Errorf("compare %v, %v: %d, not %d", x.a, x.b, got, x.want)
		}
		if got := order.Less(x.a, x.b); got != (x.want == -1) {
			t.Errorf("less %v, %v: %t", x.a, x.b, got)
		}
	}
}

// Numbers that are no priorities or ids are compared all the same, those too whose difference is no number.
func TestCompareAtTheEdges(t *testing.T) {
	l := edges()
	for _, a := range l {
		for _, b := range l {
			want := 0
			switch {
			case precedes(a, b):
				want = -1
			case precedes(b, a):
				want = 1
			}
			if got := order.Compare(a, b); got != want {
				t.Errorf("compare %v, %v: %d, not %d", a, b, got, want)
			}
			if got := order.Less(a, b); got != (want == -1) {
				t.Errorf("less %v, %v: %t", a, b, got)
			}
		}
	}
}

// Only Prio and Id count.
func TestCompareOfOtherFields(t *testing.T) {
	a, b, c := job(5, 2), job(5, 3), job(4, 1)
	for range 3 {
		a, b, c = other(a), other(b), other(other(c))
		if order.Compare(a, other(a)) != 0 || order.Compare(other(a), a) != 0 {
			t.Errorf("%v", a)
		}
		if order.Less(a, other(a)) || order.Less(other(a), a) {
			t.Errorf("less %v", a)
		}
		if order.Compare(a, b) != -1 || order.Compare(a, c) != -1 || order.Compare(c, b) != 1 {
			t.Errorf("%v, %v, %v", a, b, c)
		}
	}
}

func TestSort(t *testing.T) {
	if got := order.Sort(); len(got) != 0 {
		t.Errorf("of none: %v", got)
	}
	got := order.Sort(job(4, 1), job(5, 3), job(5, 2))
	if want := []api.Job{job(5, 2), job(5, 3), job(4, 1)}; !slices.Equal(got, want) {
		t.Errorf("%v, not %v", got, want)
	}
	for _, l := range lists() {
		if got, want := order.Sort(l...), sorted(l); !slices.Equal(got, want) {
			t.Errorf("%v: %v, not %v", l, got, want)
		}
	}
}

// Of many equal jobs each stays behind those that it was behind.
func TestSortKeepsTheOrderOfEqualOnes(t *testing.T) {
	var l []api.Job
	for i := range 600 {
		l = append(l, marked(i%3, i%2, i))
	}
	got := order.Sort(l...)
	if len(got) != 600 {
		t.Fatal(len(got))
	}
	for i := 1; i < len(got); i++ {
		a, b := got[i-1], got[i]
		if precedes(b, a) || equal(a, b) && a.User >= b.User {
			t.Errorf("%v ahead of %v", a, b)
		}
	}
}

func TestBehind(t *testing.T) {
	first, second, third := job(5, 2), job(5, 3), job(4, 1)
	for _, x := range []struct {
		j       api.Job
		l, want []api.Job
	}{
		{first, nil, nil},
		{first, []api.Job{}, nil},
		{first, []api.Job{first}, nil},
		{first, []api.Job{third, first, second}, []api.Job{third, second}},
		{second, []api.Job{third, first, second}, []api.Job{third}},
		{third, []api.Job{third, first, second}, nil},
		{job(6, 9), []api.Job{third, second, third, first}, []api.Job{third, second, third, first}},
		{job(math.MinInt, 0), []api.Job{job(math.MaxInt, 0)}, nil},
		{job(math.MaxInt, 0), []api.Job{job(math.MinInt, 0)}, []api.Job{job(math.MinInt, 0)}},
	} {
		if got := order.Behind(x.j, x.l...); !slices.Equal(got, x.want) {
			t.Errorf("behind %v of %v: %v, not %v", x.j, x.l, got, x.want)
		}
	}
}

// The jobs keep the order in which they were given, whichever it is.
func TestBehindKeepsTheOrder(t *testing.T) {
	for _, l := range lists() {
		for _, j := range []api.Job{job(0, 0), job(1, 1), job(2, 2), job(500, 500), job(1000, -1), job(-1, 1000)} {
			var want []api.Job
			for _, x := range l {
				if precedes(j, x) {
					want = append(want, x)
				}
			}
			if got := order.Behind(j, l...); !slices.Equal(got, want) {
				t.Errorf("behind %v of %v: %v, not %v", j, l, got, want)
			}
		}
	}
}

// Neither is an argument changed, nor does a result share memory with one.
func TestListsAreApart(t *testing.T) {
	l := []api.Job{job(4, 1), job(5, 3), job(5, 2), job(9, 9)}
	given := l[:3:4] // with room, into which nothing may be written
	before := slices.Clone(l)
	s, b := order.Sort(given...), order.Behind(job(7, 1), given...)
	if !slices.Equal(l, before) {
		t.Fatalf("changed to %v", l)
	}
	for _, x := range [][]api.Job{s, b} {
		if len(x) != 3 {
			t.Fatal(x)
		}
		x = append(x[:2], job(0, 0), job(0, 0))
		x[0] = job(0, 0)
	}
	if !slices.Equal(l, before) {
		t.Errorf("changed through a result to %v", l)
	}
	s = order.Sort(given...)
	clear(l)
	if !slices.Equal(s, []api.Job{job(5, 2), job(5, 3), job(4, 1)}) {
		t.Errorf("a result changed to %v", s)
	}
}

// Promises 7.2 and 7.3.

// drain removes all jobs of a queue, and fails unless Len and Peek agree with each Pop.
func drain(t *testing.T, q *order.Queue) []api.Job {
	t.Helper()
	var l []api.Job
	for n := q.Len(); n > 0; n-- {
		if q.Len() != n {
			t.Fatalf("length %d, not %d", q.Len(), n)
		}
		l = append(l, next(t, q))
	}
	empty(t, q)
	return l
}

// next removes a job, and fails unless Peek has told it.
func next(t *testing.T, q *order.Queue) api.Job {
	t.Helper()
	n := q.Len()
	told, ok := q.Peek()
	again, still := q.Peek()
	if !ok || !still || told != again || q.Len() != n {
		t.Fatalf("peek %v, %t, then %v, %t; length %d, then %d", told, ok, again, still, n, q.Len())
	}
	j, ok := q.Pop()
	if !ok || j != told || q.Len() != n-1 {
		t.Fatalf("pop %v, %t, not %v; length %d, then %d", j, ok, told, n, q.Len())
	}
	return j
}

// empty fails unless a queue answers as an empty one, or a nil one, does.
func empty(t *testing.T, q *order.Queue) {
	t.Helper()
	if q.Len() != 0 {
		t.Errorf("length %d", q.Len())
	}
	if j, ok := q.Peek(); ok || j != (api.Job{}) {
		t.Errorf("peek %v, %t", j, ok)
	}
	if j, ok := q.Pop(); ok || j != (api.Job{}) {
		t.Errorf("pop %v, %t", j, ok)
	}
	if q.Len() != 0 {
		t.Errorf("length %d", q.Len())
	}
}

// same fails unless two lists have the same jobs, in an order that differs in equal ones only.
func same(t *testing.T, got, want []api.Job) {
	t.Helper()
	if len(got) != len(want) || !slices.EqualFunc(got, want, equal) {
		t.Fatalf("%v, not %v", got, want)
	}
	count := map[api.Job]int{}
	for i := range got {
		count[got[i]]++
		count[want[i]]--
	}
	for j, n := range count {
		if n != 0 {
			t.Errorf("%v: %d times too often", j, n)
		}
	}
}

// The document's example.
func TestQueue(t *testing.T) {
	q := &order.Queue{}
	empty(t, q)
	q.Push(job(5, 3), job(5, 2), job(4, 1))
	if j, ok := q.Pop(); !ok || j != job(5, 2) {
		t.Errorf("%v, %t", j, ok)
	}
	if got := drain(t, q); !slices.Equal(got, []api.Job{job(5, 3), job(4, 1)}) {
		t.Errorf("%v", got)
	}
}

func TestQueueThatIsADeclaredVariable(t *testing.T) {
	var q order.Queue
	empty(t, &q)
	q.Push(job(1, 1))
	if j, ok := q.Pop(); !ok || j != job(1, 1) {
		t.Errorf("%v, %t", j, ok)
	}
	empty(t, &q)
}

// A job comes out with all its fields as they were.
func TestQueueKeepsWholeJobs(t *testing.T) {
	q := &order.Queue{}
	a := api.Job{Id: 1, User: 2, Width: 3, Limit: 4, Prio: 5, State: 6, Start: 7, End: 8, Plan: -1, Nodes: 1<<63 | 1}
	zero := api.Job{}
	q.Push(zero, a, other(a))
	same(t, drain(t, q), []api.Job{a, other(a), zero})
}

// A zero job is one, too: that there is none is told by false alone.
func TestQueueOfZeroJobs(t *testing.T) {
	q := &order.Queue{}
	q.Push(api.Job{}, api.Job{})
	for n := 2; n > 0; n-- {
		if q.Len() != n || next(t, q) != (api.Job{}) {
			t.Errorf("of %d", n)
		}
	}
	empty(t, q)
}

func TestPushOfNothing(t *testing.T) {
	q := &order.Queue{}
	q.Push()
	q.Push([]api.Job{}...)
	empty(t, q)
	q.Push(job(1, 1))
	q.Push()
	if q.Len() != 1 || next(t, q) != job(1, 1) {
		t.Error("changed by nothing")
	}
}

// Whether jobs are pushed together or one by one makes no difference to their order.
func TestQueueIsInOrder(t *testing.T) {
	for _, l := range lists() {
		want := sorted(l)
		q := &order.Queue{}
		q.Push(l...)
		if q.Len() != len(l) {
			t.Fatalf("length %d of %d", q.Len(), len(l))
		}
		got := drain(t, q)
		same(t, got, want)
		same(t, got, order.Sort(l...))
		for i, j := range l {
			q.Push(j)
			if q.Len() != i+1 {
				t.Fatalf("length %d, not %d", q.Len(), i+1)
			}
		}
		same(t, drain(t, q), want)
	}
}

// Each order in which few jobs can be pushed gives the same one.
func TestQueueInEveryOrder(t *testing.T) {
	want := []api.Job{job(7, 4), job(5, 2), job(5, 3), job(4, 1), job(0, 6), job(-1, 5)}
	l := slices.Clone(want)
	var each func(n int)
	each = func(n int) {
		if n == len(l) {
			q := &order.Queue{}
			q.Push(l...)
			if got := drain(t, q); !slices.Equal(got, want) {
				t.Fatalf("%v: %v", l, got)
			}
			return
		}
		for i := n; i < len(l); i++ {
			l[n], l[i] = l[i], l[n]
			each(n + 1)
			l[n], l[i] = l[i], l[n]
		}
	}
	each(0)
}

// A job may come out that was pushed long ago, or only just now.
func TestQueueBetweenPushes(t *testing.T) {
	r := rand.New(rand.NewSource(72))
	for round := range 300 {
		q, kept := &order.Queue{}, []api.Job{}
		for mark := range 200 {
			if r.Intn(5) < 2 {
				if len(kept) == 0 {
					empty(t, q)
					continue
				}
				j := next(t, q)
				i := slices.Index(kept, j)
				if i < 0 || slices.ContainsFunc(kept, func(x api.Job) bool { return precedes(x, j) }) {
					t.Fatalf("%v of %v", j, kept)
				}
				kept = slices.Delete(kept, i, i+1)
				continue
			}
			l := make([]api.Job, r.Intn(3))
			for i := range l {
				l[i] = marked(r.Intn(round+1), r.Intn(9), 3*mark+i)
			}
			q.Push(l...)
			kept = append(kept, l...)
			if q.Len() != len(kept) {
				t.Fatalf("length %d, not %d", q.Len(), len(kept))
			}
		}
		same(t, drain(t, q), sorted(kept))
	}
}

// Jobs that are equal all come out, each of them once.
func TestQueueOfEqualOnes(t *testing.T) {
	q := &order.Queue{}
	var l []api.Job
	for i := range 100 {
		l = append(l, marked(3, 3, i))
	}
	q.Push(l...)
	q.Push(marked(2, 0, 1), marked(4, 9, 1))
	same(t, drain(t, q), slices.Concat([]api.Job{marked(4, 9, 1)}, l, []api.Job{marked(2, 0, 1)}))
}

// Such a number of jobs comes out in a short time only if it does not grow with its square.
func TestQueueOfVeryManyJobs(t *testing.T) {
	const many = 1 << 17
	q := &order.Queue{}
	for i := range many {
		q.Push(job(i*40503%many, i))
	}
	if q.Len() != many {
		t.Fatal(q.Len())
	}
	before, _ := q.Pop()
	for range many - 1 {
		j, ok := q.Pop()
		if !ok || !precedes(before, j) {
			t.Fatalf("%v, then %v, %t", before, j, ok)
		}
		before = j
	}
	empty(t, q)
}

// A list that was pushed is neither changed nor kept.
func TestPushKeepsNoList(t *testing.T) {
	l := []api.Job{job(4, 1), job(5, 3), job(5, 2), job(9, 9)}
	before := slices.Clone(l)
	q := &order.Queue{}
	q.Push(l[:3]...)
	if !slices.Equal(l, before) {
		t.Errorf("changed to %v", l)
	}
	clear(l)
	if j := next(t, q); j != job(5, 2) {
		t.Errorf("%v", j)
	}
	q.Push(job(1, 1), job(1, 2))
	if !slices.Equal(l, make([]api.Job, 4)) {
		t.Errorf("changed by the queue to %v", l)
	}
	if got := drain(t, q); !slices.Equal(got, []api.Job{job(5, 3), job(4, 1), job(1, 1), job(1, 2)}) {
		t.Errorf("%v", got)
	}
}

func TestQueuesAreApart(t *testing.T) {
	p, q := &order.Queue{}, &order.Queue{}
	p.Push(job(1, 1))
	empty(t, q)
	q.Push(job(2, 2), job(3, 3))
	if got := drain(t, p); !slices.Equal(got, []api.Job{job(1, 1)}) {
		t.Errorf("%v", got)
	}
	if got := drain(t, q); !slices.Equal(got, []api.Job{job(3, 3), job(2, 2)}) {
		t.Errorf("%v", got)
	}
}

func TestNoQueue(t *testing.T) {
	var q *order.Queue
	for range 2 { // the second time after all that might have made a queue of it
		empty(t, q)
		q.Push()
		q.Push(job(5, 2), job(5, 3))
	}
	empty(t, q)
}
