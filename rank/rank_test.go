package rank_test

import (
	"fmt"
	"math"
	"slices"
	"testing"

	"wayfinder/api"
	"wayfinder/rank"
)

const (
	least = math.MinInt64
	most  = math.MaxInt64
)

// near answers one of that Dist and ID.
func near(dist, id int64) api.Near { return api.Near{Dist: dist, ID: id} }

// edges are Dists and IDs at which a difference would go round, and some about nought.
func edges() []int64 { return []int64{least, least + 1, -2, -1, 0, 1, 2, most - 1, most} }

// pairs answers one of each Dist and ID among the edges, from the nearest on: so are the edges themselves.
func pairs() []api.Near {
	var l []api.Near
	for _, dist := range edges() {
		for _, id := range edges() {
			l = append(l, near(dist, id))
		}
	}
	return l
}

// draws answers a function that tells numbers below n, always the same ones.
func draws(seed uint64) func(n int) int {
	return func(n int) int {
		seed = seed*6364136223846793005 + 1442695040888963407
		return int((seed >> 33) % uint64(n))
	}
}

// drawn answers n of Dists and IDs from among few numbers, so that many are the same in one or both.
func drawn(draw func(n int) int, n int) []api.Near {
	l := make([]api.Near, n)
	for i := range l {
		l[i] = near(int64(draw(7)-3), int64(draw(7)-3))
		if draw(4) == 0 {
			l[i] = near(edges()[draw(9)], edges()[draw(9)])
		}
	}
	return l
}

// mixed answers l in another order.
func mixed(draw func(n int) int, l []api.Near) []api.Near {
	l = slices.Clone(l)
	for i := range l {
		j := i + draw(len(l)-i)
		l[i], l[j] = l[j], l[i]
	}
	return l
}

// backwards answers l from its end on.
func backwards(l []api.Near) []api.Near {
	l = slices.Clone(l)
	slices.Reverse(l)
	return l
}

// nearer tells the chapter's word with no help of the program.
func nearer(a, b api.Near) bool {
	if a.Dist != b.Dist {
		return a.Dist < b.Dist
	}
	return a.ID < b.ID
}

// put answers l, which is told from the nearest on, with n at its place.
func put(l []api.Near, n api.Near) []api.Near {
	at := 0
	for at < len(l) && !nearer(n, l[at]) {
		at++
	}
	return slices.Insert(slices.Clone(l), at, n)
}

// inOrder answers l from the nearest on, one put to its place at a time.
func inOrder(l []api.Near) []api.Near {
	var sorted []api.Near
	for _, n := range l {
		sorted = put(sorted, n)
	}
	return sorted
}

func wantList(t *testing.T, what string, got, want []api.Near) {
	t.Helper()
	if !slices.Equal(got, want) {
		t.Errorf("%s: got %v, want %v", what, got, want)
	}
}

func newTop(t *testing.T, k int) *rank.Top {
	t.Helper()
	top, err := rank.New(k)
	if top == nil || err != api.OK {
		t.Fatalf("New(%d): got %v, error %d", k, top, err)
	}
	return top
}

// wantState holds all that a Top of k tells against the list that it should keep.
func wantState(t *testing.T, what string, top *rank.Top, k int, want []api.Near) {
	t.Helper()
	wantList(t, what+": List", top.List(), want)
	if got := top.Len(); got != len(want) {
		t.Errorf("%s: Len %d, want %d", what, got, len(want))
	}
	if got := top.Full(); got != (len(want) == k) {
		t.Errorf("%s: Full %v of %d, k %d", what, got, len(want), k)
	}
	var last api.Near
	is := k > 0 && len(want) == k
	if is {
		last = want[k-1]
	}
	if got, ok := top.Worst(); got != last || ok != is {
		t.Errorf("%s: Worst %v %v, want %v %v", what, got, ok, last, is)
	}
}

// run adds l to a Top of k and holds each answer against a list that is kept by hand; it answers the list that is kept in the end.
func run(t *testing.T, what string, k int, l []api.Near) []api.Near {
	t.Helper()
	top := newTop(t, k)
	var kept []api.Near
	wantState(t, what+", before", top, k, kept)
	for i, n := range l {
		want := len(kept) < k || k > 0 && nearer(n, kept[k-1])
		if want {
			kept = put(kept, n)
			kept = kept[:min(len(kept), k)]
		}
		if got, err := top.Add(n); got != want || err != api.OK {
			t.Errorf("%s, k %d: Add %d, of %v: got %v, error %d, want %v", what, k, i, n, got, err, want)
		}
		wantState(t, fmt.Sprintf("%s, k %d, behind %d", what, k, i), top, k, kept)
	}
	return top.List()
}

// P4.2: the chapter's example.
func TestExample(t *testing.T) {
	top := newTop(t, 2)
	for _, n := range []api.Near{near(5, 1), near(3, 9), near(5, 0)} {
		if kept, err := top.Add(n); !kept || err != api.OK {
			t.Errorf("Add of %v: got %v, error %d", n, kept, err)
		}
	}
	wantList(t, "List", top.List(), []api.Near{near(3, 9), near(5, 0)})
}

// P4.1: the lesser Dist is nearer, of the same Dist the lesser ID, also at the edges of 64 bits.
func TestLess(t *testing.T) {
	tests := []struct {
		a, b api.Near
		want bool
	}{
		{near(3, 9), near(5, 0), true}, {near(5, 0), near(3, 9), false},
		{near(5, 0), near(5, 1), true}, {near(5, 1), near(5, 0), false}, {near(5, 1), near(5, 1), false},
		{near(-1, 0), near(0, 0), true}, {near(0, -1), near(0, 0), true}, {near(0, 0), near(0, -1), false},
		{near(least, most), near(most, least), true}, {near(most, least), near(least, most), false},
		{near(0, least), near(0, most), true}, {near(0, most), near(0, least), false},
		{near(least, least), near(least, least), false}, {near(most, most), near(most, most), false},
		{api.Near{}, api.Near{}, false},
	}
	for _, test := range tests {
		if got := rank.Less(test.a, test.b); got != test.want {
			t.Errorf("Less(%v, %v): got %v", test.a, test.b, got)
		}
	}
	all := pairs()
	for i, a := range all {
		for j, b := range all {
			if got := rank.Less(a, b); got != (i < j) {
				t.Errorf("Less(%v, %v): got %v", a, b, got)
			}
		}
	}
}

// P4.1: Sorted of none, of one, of what is sorted, turned round, mixed, and of what stands there twice.
func TestSorted(t *testing.T) {
	tests := []struct {
		what    string
		l, want []api.Near
	}{
		{"nil", nil, nil},
		{"none", []api.Near{}, nil},
		{"one", []api.Near{near(4, 2)}, []api.Near{near(4, 2)}},
		{"sorted", []api.Near{near(1, 5), near(2, 1), near(2, 4)}, []api.Near{near(1, 5), near(2, 1), near(2, 4)}},
		{"turned round", []api.Near{near(2, 4), near(2, 1), near(1, 5)}, []api.Near{near(1, 5), near(2, 1), near(2, 4)}},
		{"twice", []api.Near{near(2, 1), near(1, 5), near(2, 1)}, []api.Near{near(1, 5), near(2, 1), near(2, 1)}},
		{"all the same", slices.Repeat([]api.Near{near(3, 3)}, 40), slices.Repeat([]api.Near{near(3, 3)}, 40)},
		{"the edges", pairs(), pairs()},
		{"the edges turned round", backwards(pairs()), pairs()},
		{"the edges mixed", mixed(draws(1), pairs()), pairs()},
	}
	for _, test := range tests {
		wantList(t, test.what, rank.Sorted(test.l), test.want)
	}
	draw := draws(2)
	for n := range 200 {
		l := drawn(draw, n)
		wantList(t, "drawn", rank.Sorted(l), inOrder(l))
	}
}

// P4.1: k goes from 0 to MaxTop; beside the error there is no Top.
func TestNew(t *testing.T) {
	for _, k := range []int{-1, -2, -api.MaxTop, api.MaxTop + 1, 2 * api.MaxTop, math.MaxInt32, math.MinInt32, math.MaxInt, math.MinInt, 1 << 32, 1<<32 + 5} {
		if top, err := rank.New(k); top != nil || err != api.ErrArg {
			t.Errorf("New(%d): got %v, error %d", k, top, err)
		}
	}
	for _, k := range []int{0, 1, 2, 1000, api.MaxTop - 1, api.MaxTop} {
		wantState(t, fmt.Sprintf("New(%d)", k), newTop(t, k), k, nil)
	}
}

// P4.2: of k 0 none is kept, and it is full from the beginning.
func TestKeepsNone(t *testing.T) {
	run(t, "none", 0, pairs())
	top := newTop(t, 0)
	if !top.Full() {
		t.Error("0 are kept: it is full")
	}
	if kept, err := top.Add(near(least, least)); kept || err != api.OK {
		t.Errorf("got %v, error %d", kept, err)
	}
	if worst, ok := top.Worst(); ok || worst != (api.Near{}) {
		t.Errorf("Worst of k 0: got %v", worst)
	}
	if !top.Full() || top.Len() != 0 || len(top.List()) != 0 {
		t.Error("something is kept of k 0")
	}
}

// P4.2: answers that are written out: before k, at k and beyond.
func TestAdd(t *testing.T) {
	type step struct {
		n    api.Near
		kept bool
	}
	tests := []struct {
		what  string
		k     int
		steps []step
		want  []api.Near
	}{
		{"fewer than k", 3, []step{{near(9, 1), true}, {near(2, 2), true}}, []api.Near{near(2, 2), near(9, 1)}},
		{"just k", 2, []step{{near(9, 1), true}, {near(2, 2), true}}, []api.Near{near(2, 2), near(9, 1)}},
		{"one more, nearer", 2, []step{{near(9, 1), true}, {near(2, 2), true}, {near(8, 9), true}}, []api.Near{near(2, 2), near(8, 9)}},
		{"one more, farther", 2, []step{{near(9, 1), true}, {near(2, 2), true}, {near(10, 0), false}}, []api.Near{near(2, 2), near(9, 1)}},
		{"as far as the last, lesser ID", 2, []step{{near(9, 4), true}, {near(2, 2), true}, {near(9, 3), true}}, []api.Near{near(2, 2), near(9, 3)}},
		{"as far as the last, greater ID", 2, []step{{near(9, 4), true}, {near(2, 2), true}, {near(9, 5), false}}, []api.Near{near(2, 2), near(9, 4)}},
		{"the last one again", 2, []step{{near(9, 4), true}, {near(2, 2), true}, {near(9, 4), false}}, []api.Near{near(2, 2), near(9, 4)}},
		{"the first one again", 2, []step{{near(9, 4), true}, {near(2, 2), true}, {near(2, 2), true}, {near(2, 2), false}}, []api.Near{near(2, 2), near(2, 2)}},
		{"twice before k", 3, []step{{near(9, 4), true}, {near(9, 4), true}}, []api.Near{near(9, 4), near(9, 4)}},
		{"k 1", 1, []step{{near(9, 4), true}, {near(9, 4), false}, {near(9, 3), true}, {near(10, 0), false}, {near(8, 9), true}}, []api.Near{near(8, 9)}},
		{"the farthest there is, kept before k", 2, []step{{near(most, most), true}, {near(most, most), true}, {near(most, most), false}}, []api.Near{near(most, most), near(most, most)}},
		{"the nearest there is", 1, []step{{near(most, most), true}, {near(least, least), true}, {near(least, least), false}}, []api.Near{near(least, least)}},
		{"an end to the other", 1, []step{{near(least, most), true}, {near(most, least), false}, {near(least, least), true}}, []api.Near{near(least, least)}},
		{"nothing's zero value is one, too", 2, []step{{near(0, 0), true}, {near(0, 0), true}, {near(0, 0), false}}, []api.Near{near(0, 0), near(0, 0)}},
	}
	for _, test := range tests {
		top := newTop(t, test.k)
		for i, s := range test.steps {
			if got, err := top.Add(s.n); got != s.kept || err != api.OK {
				t.Errorf("%s: Add %d: got %v, error %d", test.what, i, got, err)
			}
		}
		wantState(t, test.what, top, test.k, test.want)
	}
}

// P4.2, P4.3: from the nearest on, from the farthest on and mixed; each answer on the way.
func TestRuns(t *testing.T) {
	for _, k := range []int{0, 1, 2, 3, 4, 5, 7, 8, 40, 80, 81, 82, 200} {
		want := pairs()[:min(k, 81)]
		wantList(t, "from the nearest on", run(t, "from the nearest on", k, pairs()), want)
		wantList(t, "from the farthest on", run(t, "from the farthest on", k, backwards(pairs())), want)
		wantList(t, "mixed", run(t, "mixed", k, mixed(draws(uint64(k)), pairs())), want)
	}
}

// P4.3: of whatever is added, the first k are kept, at each k.
func TestDrawnRuns(t *testing.T) {
	draw := draws(5)
	for round := range 400 {
		l := drawn(draw, draw(60))
		k := draw(len(l) + 4)
		wantList(t, fmt.Sprintf("round %d", round), run(t, "drawn", k, l), inOrder(l)[:min(k, len(l))])
	}
}

// permuted hands each order of l to do.
func permuted(l []api.Near, from int, do func(l []api.Near)) {
	if from == len(l) {
		do(l)
		return
	}
	for i := from; i < len(l); i++ {
		l[from], l[i] = l[i], l[from]
		permuted(l, from+1, do)
		l[from], l[i] = l[i], l[from]
	}
}

// P4.3: every order of a few, with some that are there twice, comes to one list.
func TestAllOrders(t *testing.T) {
	l := []api.Near{near(1, 1), near(1, 2), near(1, 2), near(2, 0), near(2, 3), near(-1, 7), near(3, least)}
	want := inOrder(l)
	for k := range len(l) + 2 {
		permuted(l, 0, func(l []api.Near) {
			top := newTop(t, k)
			for _, n := range l {
				top.Add(n)
			}
			if got := top.List(); !slices.Equal(got, want[:min(k, len(want))]) {
				t.Errorf("k %d, %v: got %v", k, l, got)
			}
		})
	}
}

// P4.3: Worst never comes to be farther, and is there from k on.
func TestWorstComesNearer(t *testing.T) {
	draw := draws(6)
	for _, k := range []int{1, 2, 9, 30} {
		top := newTop(t, k)
		last, was := top.Worst()
		for _, n := range drawn(draw, 500) {
			top.Add(n)
			worst, ok := top.Worst()
			if was && (!ok || nearer(last, worst)) {
				t.Errorf("k %d: Worst went from %v to %v %v", k, last, worst, ok)
			}
			last, was = worst, ok
		}
	}
}

// P4.3: a great many, more than are kept and fewer.
func TestMany(t *testing.T) {
	draw := draws(7)
	l := make([]api.Near, 200000)
	for i := range l {
		l[i] = near(int64(draw(1<<20)), int64(draw(8)))
	}
	want := slices.Clone(l)
	slices.SortFunc(want, func(a, b api.Near) int {
		if nearer(a, b) {
			return -1
		}
		if nearer(b, a) {
			return 1
		}
		return 0
	})
	for _, k := range []int{1000, 100000, 200000, api.MaxTop} {
		top := newTop(t, k)
		for _, n := range l {
			top.Add(n)
		}
		if !slices.Equal(top.List(), want[:min(k, len(want))]) {
			t.Errorf("k %d: List is another one", k)
		}
		if top.Full() != (k <= len(l)) || top.Len() != min(k, len(l)) {
			t.Errorf("k %d: Full %v, Len %d", k, top.Full(), top.Len())
		}
	}
}

// P4.1: of MaxTop, just as many are kept, and the next one asks who is nearer.
func TestMaxTop(t *testing.T) {
	if testing.Short() {
		t.Skip("it takes some 300 million bytes")
	}
	top := newTop(t, api.MaxTop)
	for i := range int64(api.MaxTop) {
		if kept, err := top.Add(near(0, api.MaxTop-1-i)); !kept || err != api.OK {
			t.Fatalf("Add %d: got %v, error %d", i, kept, err)
		}
		if full := top.Full(); full != (i == api.MaxTop-1) {
			t.Fatalf("Full behind %d: got %v", i+1, full)
		}
	}
	if kept, err := top.Add(near(0, api.MaxTop)); kept || err != api.OK {
		t.Errorf("one that is farther: got %v, error %d", kept, err)
	}
	if kept, err := top.Add(near(-1, 0)); !kept || err != api.OK {
		t.Errorf("one that is nearer: got %v, error %d", kept, err)
	}
	if worst, ok := top.Worst(); !ok || worst != near(0, api.MaxTop-2) || top.Len() != api.MaxTop {
		t.Errorf("Worst: got %v, %v; Len %d", worst, ok, top.Len())
	}
}

// Rule 7: a Top that nobody made tells ErrNil, else nothing, whatever it is asked first.
func TestUnmade(t *testing.T) {
	var none *rank.Top
	var plain rank.Top
	failed, _ := rank.New(-1)
	for what, top := range map[string]*rank.Top{"nil": none, "new": new(rank.Top), "var": &plain, "of an error": failed, "literal": {}} {
		for range 2 {
			if worst, ok := top.Worst(); ok || worst != (api.Near{}) {
				t.Errorf("%s: Worst %v %v", what, worst, ok)
			}
			if top.Full() || top.Len() != 0 || len(top.List()) != 0 {
				t.Errorf("%s: Full %v, Len %d, List %v", what, top.Full(), top.Len(), top.List())
			}
			if kept, err := top.Add(near(1, 1)); kept || err != api.ErrNil {
				t.Errorf("%s: Add %v, error %d", what, kept, err)
			}
		}
	}
}

// Rule 3: what is handed to Sorted stays as it is, its spare room too, and the answer is memory of its own.
func TestSortedMemory(t *testing.T) {
	mark := near(77, 77)
	for _, l := range [][]api.Near{{}, {near(2, 2)}, {near(3, 1), near(2, 2), near(1, 3)}, {near(1, 1), near(2, 2)}} {
		held := slices.Concat(l, slices.Repeat([]api.Near{mark}, 8))
		was := slices.Clone(held)
		got := rank.Sorted(held[:len(l)])
		again := rank.Sorted(held[:len(l)])
		for i := range got[:cap(got)] {
			if i >= len(got) && got[:cap(got)][i] != (api.Near{}) {
				t.Error("spare room was handed out with something in it")
			}
			got[:cap(got)][i] = near(55, 55)
		}
		wantList(t, "what was handed in", held, was)
		wantList(t, "another answer", again, inOrder(l))
		for i := range held {
			held[i] = near(66, 66)
		}
		wantList(t, "another answer, behind a change of the argument", again, inOrder(l))
	}
}

// Rule 3: a List that was answered and the Top have no memory in common, whatever is done to either.
func TestListMemory(t *testing.T) {
	for _, k := range []int{1, 2, 3, 4, 5, 8} {
		top := newTop(t, k)
		var l []api.Near
		for i := range int64(12) {
			n := near(i*7%12, -i)
			top.Add(n)
			l = append(l, n)
			want := inOrder(l)[:min(k, len(l))]
			before := top.List()
			spoilt := top.List()
			for i := range spoilt[:cap(spoilt)] {
				spoilt[:cap(spoilt)][i] = near(least, least)
			}
			wantList(t, "a List answered ahead", before, want)
			wantState(t, fmt.Sprintf("k %d behind %d", k, i), top, k, want)
			top.Add(near(100, 100))
			top.Add(near(-100, -100))
			l = append(l, near(100, 100), near(-100, -100))
			wantList(t, "a List answered ahead of more", before, want)
		}
	}
}

// T6: what is asked changes nothing that is answered.
func TestAskingChangesNothing(t *testing.T) {
	draw := draws(8)
	l := drawn(draw, 100)
	asked, silent := newTop(t, 10), newTop(t, 10)
	for _, n := range l {
		asked.List()
		asked.Worst()
		asked.Full()
		asked.Len()
		a, _ := asked.Add(n)
		b, _ := silent.Add(n)
		if a != b {
			t.Errorf("Add of %v: %v and %v", n, a, b)
		}
	}
	wantList(t, "List", asked.List(), silent.List())
}

// Two Tops have nothing in common.
func TestTwoTops(t *testing.T) {
	one, other := newTop(t, 2), newTop(t, 2)
	one.Add(near(1, 1))
	other.Add(near(2, 2))
	one.Add(near(3, 3))
	wantState(t, "one", one, 2, []api.Near{near(1, 1), near(3, 3)})
	wantState(t, "other", other, 2, []api.Near{near(2, 2)})
}

// FuzzTop holds P4.2 and P4.3 of ones that are made of bytes, two each.
func FuzzTop(f *testing.F) {
	f.Add(2, []byte{5, 1, 3, 9, 5, 0})
	f.Add(0, []byte{1, 1})
	f.Add(-1, []byte{})
	f.Add(3, []byte{1, 255, 1, 255, 255, 1, 0, 0, 128, 127})
	f.Fuzz(func(t *testing.T, k int, b []byte) {
		if k < 0 || k > api.MaxTop {
			if top, err := rank.New(k); top != nil || err != api.ErrArg {
				t.Errorf("New(%d): error %d", k, err)
			}
			return
		}
		var l []api.Near
		for i := 0; i+1 < min(len(b), 200); i += 2 {
			l = append(l, near(int64(int8(b[i])), int64(int8(b[i+1]))))
		}
		want := inOrder(l)
		wantList(t, "List", run(t, "fuzzed", k, l), want[:min(k, len(want))])
		wantList(t, "Sorted", rank.Sorted(l), want)
	})
}
