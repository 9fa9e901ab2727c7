package rule_test

import (
	"math"
	"testing"

	"berthage/api"
	"berthage/rule"
)

// row is a row of the chapter's table: a kind, its fields, its locks, and whether the kind only reads.
type row struct {
	kind   int
	fields []string
	locks  rule.Lane
	reads  bool
}

// table returns the chapter's table, its numbers and locks written out.
func table() []row {
	none, all := rule.Lane{}, rule.Lane{true, true, true}
	jobs, nodes, prof := rule.Lane{true, false, false}, rule.Lane{false, true, false}, rule.Lane{false, false, true}
	plans := rule.Lane{true, false, true}
	return []row{
		{1, []string{"User", "Width", "Limit", "Prio", "Held"}, plans, false},
		{2, []string{"Id"}, all, false},
		{3, []string{"Id"}, plans, false},
		{4, []string{"Id"}, plans, false},
		{5, []string{"Id"}, all, false},
		{6, []string{"Id"}, jobs, true},
		{7, []string{"Node"}, all, false},
		{8, []string{"Node"}, all, false},
		{9, []string{"By"}, all, false},
		{10, nil, nodes, true},
		{11, nil, jobs, true},
		{12, nil, prof, true},
		{13, nil, none, false},
	}
}

// others returns numbers that are no kinds: at and around the edges, and those of which a part is the number of a kind.
func others() []int {
	l := []int{math.MinInt, math.MaxInt - 1, math.MaxInt, 256, 1 << 16, 1 << 32, -256, -1 << 32}
	for n := -70; n <= 0; n++ {
		l = append(l, n)
	}
	for n := 14; n <= 80; n++ {
		l = append(l, n)
	}
	for k := 1; k <= 13; k++ {
		l = append(l, k+256, k+1<<16, k+1<<32, k-256, k-1<<32, k+math.MinInt)
	}
	return l
}

// rows returns the table, and a row without fields and locks for each number that is no kind.
func rows() []row {
	l := table()
	for _, kind := range others() {
		l = append(l, row{kind: kind})
	}
	return l
}

// names returns the names of all fields but Kind.
func names() []string {
	return []string{"Id", "User", "Width", "Limit", "Prio", "Held", "Node", "By"}
}

// set returns the request with a field set to a number; Held is set if the number is odd.
func set(t *testing.T, r api.Request, name string, n int64) api.Request {
	t.Helper()
	switch name {
	case "Id":
		r.Id = int(n)
	case "User":
		r.User = int(n)
	case "Width":
		r.Width = int(n)
	case "Limit":
		r.Limit = n
	case "Prio":
		r.Prio = int(n)
	case "Held":
		r.Held = n%2 != 0
	case "Node":
		r.Node = int(n)
	case "By":
		r.By = n
	default:
		t.Fatalf("no field %s", name)
	}
	return r
}

// has reports whether a name is one of these.
func has(l []string, name string) bool {
	for _, x := range l {
		if x == name {
			return true
		}
	}
	return false
}

// filled returns a request with each of these fields set, each to a number of its own that depends on first.
func filled(t *testing.T, kind int, fields []string, first int64) api.Request {
	t.Helper()
	r := api.Request{Kind: kind}
	for i, name := range names() {
		if has(fields, name) {
			r = set(t, r, name, first+2*int64(i))
		}
	}
	return r
}

// Promise 9.1.

func TestLocksAreNumbered(t *testing.T) {
	if rule.Jobs != 0 || rule.Nodes != 1 || rule.Prof != 2 || rule.Count != 3 || len(rule.Lane{}) != 3 {
		t.Errorf("%d, %d, %d, %d", rule.Jobs, rule.Nodes, rule.Prof, rule.Count)
	}
}

func TestIs(t *testing.T) {
	for _, x := range table() {
		if !rule.Is(x.kind) {
			t.Errorf("no kind %d", x.kind)
		}
	}
	for _, kind := range others() {
		if rule.Is(kind) {
			t.Errorf("kind %d", kind)
		}
	}
}

func TestNeeds(t *testing.T) {
	for _, x := range rows() {
		if got := rule.Needs(x.kind); got != x.locks {
			t.Errorf("kind %d: %v, not %v", x.kind, got, x.locks)
		}
	}
}

// The names of the kinds stand for the numbers of the table.
func TestNeedsByName(t *testing.T) {
	for name, x := range map[string]struct {
		kind  int
		locks []int
	}{
		"submit":   {api.ReqSubmit, []int{rule.Jobs, rule.Prof}},
		"cancel":   {api.ReqCancel, []int{rule.Jobs, rule.Nodes, rule.Prof}},
		"hold":     {api.ReqHold, []int{rule.Jobs, rule.Prof}},
		"release":  {api.ReqRelease, []int{rule.Jobs, rule.Prof}},
		"complete": {api.ReqComplete, []int{rule.Jobs, rule.Nodes, rule.Prof}},
		"query":    {api.ReqQuery, []int{rule.Jobs}},
		"drain":    {api.ReqDrain, []int{rule.Jobs, rule.Nodes, rule.Prof}},
		"resume":   {api.ReqResume, []int{rule.Jobs, rule.Nodes, rule.Prof}},
		"tick":     {api.ReqTick, []int{rule.Jobs, rule.Nodes, rule.Prof}},
		"info":     {api.ReqInfo, []int{rule.Nodes}},
		"load":     {api.ReqLoad, []int{rule.Jobs}},
		"clock":    {api.ReqClock, []int{rule.Prof}},
		"stop":     {api.ReqStop, nil},
	} {
		var want rule.Lane
		for _, k := range x.locks {
			want[k] = true
		}
		if got := rule.Needs(x.kind); got != want {
			t.Errorf("%s: %v, not %v", name, got, want)
		}
	}
}

func TestEvery(t *testing.T) {
	if got := rule.Every(); got != (rule.Lane{true, true, true}) {
		t.Errorf("%v", got)
	}
}

// A lane that was changed is none that is returned again.
func TestLanesAreApart(t *testing.T) {
	for _, x := range rows() {
		l := rule.Needs(x.kind)
		for k := range l {
			l[k] = !l[k]
		}
		if got := rule.Needs(x.kind); got != x.locks {
			t.Errorf("kind %d: %v, not %v", x.kind, got, x.locks)
		}
	}
	l := rule.Every()
	l[rule.Nodes] = false
	if got := rule.Every(); got != (rule.Lane{true, true, true}) {
		t.Errorf("%v", got)
	}
}

// The document's example.
func TestCleanOfDrain(t *testing.T) {
	r := api.Request{Kind: api.ReqDrain, Id: 5, Node: 3, By: 9}
	if got := rule.Clean(r); got != (api.Request{Kind: api.ReqDrain, Node: 3}) {
		t.Errorf("%v", got)
	}
}

// Of a request with all fields those of its kind remain, whatever their numbers are.
func TestClean(t *testing.T) {
	for _, x := range rows() {
		for _, first := range []int64{math.MinInt64, -1 << 40, -15, -1, 1, 3, 1<<40 + 1, math.MaxInt64 - 14} {
			r := filled(t, x.kind, names(), first)
			want := filled(t, x.kind, x.fields, first)
			got := rule.Clean(r)
			if got != want {
				t.Errorf("clean of %v: %v, not %v", r, got, want)
			}
			if again := rule.Clean(got); again != got {
				t.Errorf("clean of %v: %v", got, again)
			}
		}
	}
}

// Each field alone remains if the kind has it; if not, nothing but the kind does.
func TestCleanOfOneField(t *testing.T) {
	for _, x := range rows() {
		if got := rule.Clean(api.Request{Kind: x.kind}); got != (api.Request{Kind: x.kind}) {
			t.Errorf("of nothing: %v", got)
		}
		for _, name := range names() {
			for _, n := range []int64{math.MinInt64, math.MinInt64 + 1, -1, 0, 1, 7, math.MaxInt64} {
				r := set(t, api.Request{Kind: x.kind}, name, n)
				want := api.Request{Kind: x.kind}
				if has(x.fields, name) {
					want = r
				}
				if got := rule.Clean(r); got != want {
					t.Errorf("clean of %v: %v, not %v", r, got, want)
				}
			}
		}
	}
}

func TestSame(t *testing.T) {
	r := api.Request{Kind: api.ReqDrain, Id: 5, Node: 3, By: 9}
	for _, x := range []struct {
		a, b api.Request
		want bool
	}{
		{r, r, true},
		{r, rule.Clean(r), true},
		{r, api.Request{Kind: api.ReqDrain, Node: 4, Id: 5, By: 9}, false},
		{r, api.Request{Kind: api.ReqResume, Id: 5, Node: 3, By: 9}, false},
		{api.Request{}, api.Request{}, true},
		{api.Request{}, api.Request{Id: 1, User: 1, Width: 1, Limit: 1, Prio: 1, Held: true, Node: 1, By: 1}, true},
		{api.Request{Kind: 14, Id: 1}, api.Request{Kind: 14, Id: 2}, true},
		{api.Request{Kind: 14}, api.Request{Kind: 15}, false},
	} {
		if got := rule.Same(x.a, x.b); got != x.want {
			t.Errorf("%v, %v: %t", x.a, x.b, got)
		}
		if got := rule.Same(x.b, x.a); got != x.want {
			t.Errorf("%v, %v: %t", x.b, x.a, got)
		}
	}
}

// Requests that differ in one field are the same just if their kind has no such field.
func TestSameButForOneField(t *testing.T) {
	for _, x := range rows() {
		for _, r := range []api.Request{{Kind: x.kind}, filled(t, x.kind, names(), 2), filled(t, x.kind, names(), -33)} {
			if !rule.Same(r, r) || !rule.Same(r, rule.Clean(r)) || !rule.Same(rule.Clean(r), r) {
				t.Errorf("%v is not itself", r)
			}
			for _, name := range names() {
				changed := set(t, r, name, 1000)
				if name == "Held" {
					changed.Held = !r.Held
				}
				want := !has(x.fields, name)
				if got := rule.Same(r, changed); got != want {
					t.Errorf("%v, %v: %t", r, changed, got)
				}
				if got := rule.Same(changed, r); got != want {
					t.Errorf("%v, %v: %t", changed, r, got)
				}
			}
		}
	}
}

// Requests of two kinds are never the same, those too that have nothing but their kinds.
func TestSameOfTwoKinds(t *testing.T) {
	l := rows()
	for i, x := range l {
		for _, y := range l[:i] {
			if rule.Same(api.Request{Kind: x.kind}, api.Request{Kind: y.kind}) {
				t.Errorf("kinds %d and %d", x.kind, y.kind)
			}
			if rule.Same(filled(t, x.kind, names(), 1), filled(t, y.kind, names(), 1)) {
				t.Errorf("kinds %d and %d, with all fields", x.kind, y.kind)
			}
		}
	}
}

func TestReads(t *testing.T) {
	for _, x := range rows() {
		if got := rule.Reads(x.kind); got != x.reads {
			t.Errorf("kind %d: %t", x.kind, got)
		}
	}
}

// Promise 9.2.

// lanes returns all lanes; lock k is included in lane n if bit k of n is set.
func lanes() []rule.Lane {
	var l []rule.Lane
	for n := range 8 {
		l = append(l, rule.Lane{n%2 == 1, n/2%2 == 1, n/4 == 1})
	}
	return l
}

// The document's example.
func TestNextOfHold(t *testing.T) {
	l := rule.Needs(api.ReqHold)
	if got := l.Next(1); got != rule.Prof {
		t.Errorf("%d", got)
	}
}

// All lanes, from each lock on; the results are written out.
func TestNext(t *testing.T) {
	wants := [8][3]int{{3, 3, 3}, {0, 3, 3}, {1, 1, 3}, {0, 1, 3}, {2, 2, 2}, {0, 2, 2}, {1, 1, 2}, {0, 1, 2}}
	for n, l := range lanes() {
		for from, want := range wants[n] {
			if got := l.Next(from); got != want {
				t.Errorf("%v from %d on: %d, not %d", l, from, got, want)
			}
		}
	}
}

// Below the first lock is as at the first one, and past the last one there is none.
func TestNextBeyondTheLocks(t *testing.T) {
	for _, l := range lanes() {
		for _, from := range []int{-1, -2, -3, -256, -1 << 32, math.MinInt + 1, math.MinInt} {
			if got, want := l.Next(from), l.Next(0); got != want {
				t.Errorf("%v from %d on: %d, not %d", l, from, got, want)
			}
		}
		for _, from := range []int{3, 4, 5, 64, 256, 1 << 32, math.MaxInt - 1, math.MaxInt} {
			if got := l.Next(from); got != 3 {
				t.Errorf("%v from %d on: %d", l, from, got)
			}
		}
	}
}

func TestLen(t *testing.T) {
	wants := [8]int{0, 1, 1, 2, 1, 2, 2, 3}
	for n, l := range lanes() {
		if got := l.Len(); got != wants[n] {
			t.Errorf("%v: %d, not %d", l, got, wants[n])
		}
	}
}

// Going from lock to lock meets each that is included, and each of them once.
func TestNextMeetsAllLocks(t *testing.T) {
	for _, l := range lanes() {
		var met rule.Lane
		n := 0
		for k := l.Next(0); k >= 0 && k < rule.Count && n <= rule.Count; k = l.Next(k + 1) {
			met[k] = true
			n++
		}
		if met != l || n != l.Len() {
			t.Errorf("%v: %d met, %v, of %d", l, n, met, l.Len())
		}
	}
}
