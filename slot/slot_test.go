package slot_test

import (
	"fmt"
	"math"
	"slices"
	"testing"

	"wayfinder/api"
	"wayfinder/slot"
)

// TestExample: the chapter's row.
func TestExample(t *testing.T) {
	s, err := slot.New(2, 9)
	if err != api.OK {
		t.Fatal(err)
	}
	wantPut := func(what string, v []int16, want int) {
		t.Helper()
		if n, err := s.Put(v); n != want || err != api.OK {
			t.Errorf("Put %s: got %d, error %d, want %d", what, n, err, want)
		}
	}
	wantPut("a", []int16{1, 2}, 0)
	wantPut("b", []int16{3, 4}, 1)
	if err := s.Free(0); err != api.OK {
		t.Errorf("Free 0: error %d", err)
	}
	wantPut("c", []int16{5, 6}, 0)
	for n, want := range [][]int16{{5, 6}, {3, 4}} {
		if v, err := s.Get(n); !slices.Equal(v, want) || err != api.OK {
			t.Errorf("Get(%d): got %v, error %d, want %v", n, v, err, want)
		}
	}
}

// TestNew: P9.1, dim goes from 1 to MaxDim, room from 1 to MaxRoom; all slots are free, and there are as many as the room.
func TestNew(t *testing.T) {
	goodDims, goodRooms := []int{1, 2, 1023, api.MaxDim}, []int{1, 2, 64, api.MaxRoom - 1, api.MaxRoom}
	odd := []int{0, -1, -2, math.MinInt, math.MinInt32, math.MaxInt, math.MaxInt32, 1 << 32, 1<<32 + 1}
	wrongDims := append([]int{api.MaxDim + 1, -api.MaxDim, 2 * api.MaxDim}, odd...)
	wrongRooms := append([]int{api.MaxRoom + 1, -api.MaxRoom, 2 * api.MaxRoom}, odd...)
	for _, dim := range slices.Concat(goodDims, wrongDims) {
		for _, room := range slices.Concat(goodRooms, wrongRooms) {
			s, err := slot.New(dim, room)
			if slices.Contains(wrongDims, dim) || slices.Contains(wrongRooms, room) {
				if s != nil || err != api.ErrArg {
					t.Errorf("New(%d, %d): got %v, error %d", dim, room, s, err)
				}
				continue
			}
			if s == nil || err != api.OK {
				t.Fatalf("New(%d, %d): got %v, error %d", dim, room, s, err)
			}
			if s.Count() != 0 || len(s.Trace()) != 0 || s.Has(0) || s.Has(room-1) {
				t.Errorf("New(%d, %d): something is there", dim, room)
			}
			if n, err := s.Put(make([]int16, dim)); n != 0 || err != api.OK {
				t.Errorf("New(%d, %d): the first Put tells %d, error %d", dim, room, n, err)
			}
		}
	}
}

// TestPutVector: P9.1, vec.Check's error of nothing and of another length than dim, also if no slot is free; nothing is changed.
func TestPutVector(t *testing.T) {
	for _, dim := range []int{1, 2, 3, api.MaxDim} {
		for _, b := range []*both{made(t, dim, 2), filled(t, dim, 2)} {
			for _, wrong := range [][]int16{nil, {}, make([]int16, dim-1), make([]int16, dim+1), make([]int16, 2*dim), make([]int16, 2*api.MaxDim)} {
				if n, err := b.s.Put(wrong); n != 0 || err != api.ErrArg {
					t.Errorf("dim %d: Put of %d numbers tells %d, error %d", dim, len(wrong), n, err)
				}
			}
			b.want(t, fmt.Sprint("dim ", dim))
		}
	}
}

// TestPutFull: P9.1, ErrFull with all slots taken, at rooms about whole words; nothing is changed, and a slot that is freed is given again.
func TestPutFull(t *testing.T) {
	for _, room := range []int{1, 2, 63, 64, 65, 127, 128, 129, 192, 200} {
		b := filled(t, 3, room)
		for range 3 {
			if n, err := b.s.Put([]int16{1, 2, 3}); n != 0 || err != api.ErrFull {
				t.Errorf("room %d: Put tells %d, error %d", room, n, err)
			}
		}
		b.want(t, fmt.Sprint("room ", room))
		for _, n := range []int{0, room / 2, room - 1} {
			b.free(t, n)
			b.want(t, fmt.Sprintf("room %d, %d freed", room, n))
			if got := b.put(t, vectorOf(3, 1000+n)); got != n {
				t.Errorf("room %d: got %d, want %d", room, got, n)
			}
			b.put(t, vectorOf(3, 1))
			b.want(t, fmt.Sprintf("room %d, %d given again", room, n))
		}
	}
}

// TestPutRises: P9.1, slots that were never given come from 0 on, beyond 64 and 128, too.
func TestPutRises(t *testing.T) {
	b := begun(t, 2, 1000, 300)
	b.want(t, "300 of 1000")
}

// orders calls do with each order of l.
func orders(l []int, do func(l []int)) {
	var from func(i int)
	from = func(i int) {
		if i == len(l) {
			do(slices.Clone(l))
			return
		}
		for j := i; j < len(l); j++ {
			l[i], l[j] = l[j], l[i]
			from(i + 1)
			l[i], l[j] = l[j], l[i]
		}
	}
	from(0)
}

// TestPutLeast: P9.1, the least free slot is given, whatever the order of the Frees, within a word and across words; then those behind.
func TestPutLeast(t *testing.T) {
	for _, freed := range [][]int{{0, 1, 2, 3, 4}, {0, 63, 64, 127, 128}, {62, 63, 64, 65}, {126, 127, 128, 129}, {5, 130}, {0, 64, 128, 131}} {
		start := begun(t, 1, 140, 132)
		rising := slices.Sorted(slices.Values(freed))
		orders(freed, func(order []int) {
			b := start.clone(t)
			for _, n := range order {
				b.free(t, n)
			}
			for i, want := range slices.Concat(rising, []int{132, 133}) {
				if got := b.put(t, vectorOf(1, 200+i)); got != want {
					t.Fatalf("freed %v: got %d, want %d", order, got, want)
				}
			}
			b.want(t, fmt.Sprint("freed ", order))
		})
	}
}

// TestPutBetweenFrees: P9.1, Frees and Puts in turn: a Free behind a Put is seen, below it and above it.
func TestPutBetweenFrees(t *testing.T) {
	b := filled(t, 1, 200)
	for _, n := range []int{150, 3, 70, 199, 0, 64, 63, 128} {
		b.free(t, n)
	}
	for _, want := range []int{0, 3, 63} {
		if got := b.put(t, vectorOf(1, 500)); got != want {
			t.Errorf("got %d, want %d", got, want)
		}
	}
	b.free(t, 1)
	b.free(t, 65)
	for _, want := range []int{1, 64, 65, 70} {
		if got := b.put(t, vectorOf(1, 501)); got != want {
			t.Errorf("got %d, want %d", got, want)
		}
	}
	b.free(t, 70)
	b.free(t, 190)
	for _, want := range []int{70, 128, 150, 190, 199} {
		if got := b.put(t, vectorOf(1, 502)); got != want {
			t.Errorf("got %d, want %d", got, want)
		}
	}
	b.put(t, vectorOf(1, 503))
	b.want(t, "in the end")
}

// TestGet: P9.1, the vector that was put, number by number, also those at the edges of 16 bits and of the greatest dim; got twice it is the same.
func TestGet(t *testing.T) {
	draw := draws(3)
	for _, dim := range []int{1, 2, 3, 7, 64, 1023, api.MaxDim} {
		b := made(t, dim, 70)
		for range 70 {
			b.put(t, drawnVector(draw, dim))
		}
		for n := range 70 {
			b.get(t, n)
			b.get(t, 69-n)
		}
		b.want(t, fmt.Sprint("dim ", dim))
	}
	b := made(t, 5, 1)
	b.put(t, []int16{math.MinInt16, -1, 0, 1, math.MaxInt16})
	if got := b.get(t, 0); !slices.Equal(got, []int16{-32768, -1, 0, 1, 32767}) {
		t.Errorf("got %v", got)
	}
}

// wantNone holds that nothing can be got from n, nor n be freed, and that nothing is changed by it.
func wantNone(t *testing.T, b *both, n int) {
	t.Helper()
	if v, err := b.s.Get(n); len(v) != 0 || err != api.ErrNone {
		t.Errorf("Get(%d): got %v, error %d", n, v, err)
	}
	if err := b.s.Free(n); err != api.ErrNone {
		t.Errorf("Free(%d): error %d", n, err)
	}
	if b.s.Has(n) {
		t.Errorf("Has(%d)", n)
	}
	b.want(t, fmt.Sprint("asked for ", n))
}

// TestNone: P9.1, Get and Free answer ErrNone of a slot that was never given, was freed, or is not there; it does not stand in the trace.
func TestNone(t *testing.T) {
	for _, room := range []int{1, 2, 64, 65, 130} {
		for _, n := range append(odd(room), 0, room-1) {
			wantNone(t, made(t, 2, room), n)
		}
		b := filled(t, 2, room)
		for _, n := range odd(room) {
			wantNone(t, b, n)
		}
		b.get(t, room-1)
		b.free(t, room-1)
		wantNone(t, b, room-1)
		b.free(t, 0)
		wantNone(t, b, 0)
	}
}

// TestFreeTwice: P9.1, of a slot that is freed twice ErrNone; given again it may be freed again, and its vector is the new one.
func TestFreeTwice(t *testing.T) {
	b := filled(t, 2, 3)
	for i := range 5 {
		if err := b.s.Free(1); err != api.OK {
			t.Errorf("Free: error %d", err)
		}
		if err := b.s.Free(1); err != api.ErrNone {
			t.Errorf("Free once more: error %d", err)
		}
		delete(b.h.vectors, 1)
		b.want(t, "freed twice")
		if n := b.put(t, vectorOf(2, 50+i)); n != 1 {
			t.Errorf("given again: %d", n)
		}
		b.want(t, "given again")
	}
}

// TestFreeAll: P9.1, all slots may be freed and are given again from 0 on.
func TestFreeAll(t *testing.T) {
	for _, room := range []int{1, 64, 65, 150} {
		for _, down := range []bool{false, true} {
			b := filled(t, 2, room)
			for n := range room {
				if down {
					n = room - 1 - n
				}
				b.free(t, n)
			}
			b.want(t, "all freed")
			for n := range room {
				if got := b.put(t, vectorOf(2, 400+n)); got != n {
					t.Fatalf("room %d: got %d, want %d", room, got, n)
				}
			}
			b.want(t, "all given again")
		}
	}
}

// TestTrace: P9.2, the slots that were got, in order, each as often as it was; no other call changes it but Clear.
func TestTrace(t *testing.T) {
	b := filled(t, 1, 100)
	wantTrace := func(what string, want ...int) {
		t.Helper()
		if got := b.s.Trace(); !slices.Equal(got, want) {
			t.Errorf("%s: got %v, want %v", what, got, want)
		}
	}
	wantTrace("at first")
	for _, n := range []int{7, 99, 7, 7, 0} {
		b.get(t, n)
	}
	wantTrace("got", 7, 99, 7, 7, 0)
	wantTrace("asked twice", 7, 99, 7, 7, 0)
	for _, n := range []int{100, -1, math.MinInt} {
		b.get(t, n)
	}
	b.free(t, 7)
	b.get(t, 7)
	b.free(t, 7)
	b.put(t, []int16{5})
	b.put(t, []int16{5})
	b.put(t, nil)
	b.s.Has(7)
	b.s.Count()
	b.s.Clone()
	wantTrace("behind other calls", 7, 99, 7, 7, 0)
	b.get(t, 7)
	wantTrace("got anew", 7, 99, 7, 7, 0, 7)
	b.s.Clear()
	wantTrace("cleared")
	b.s.Clear()
	wantTrace("cleared twice")
	b.h.trace = nil
	b.want(t, "cleared")
	b.get(t, 42)
	wantTrace("got behind Clear", 42)
	b.want(t, "in the end")
}

// TestHasCountAsk: P9.2, Has, Count and Trace behind each call; to ask changes nothing.
func TestHasCountAsk(t *testing.T) {
	b := made(t, 2, 3)
	calls := []struct {
		what  string
		do    func()
		has   []bool
		count int
		trace []int
	}{
		{"New", func() {}, []bool{false, false, false}, 0, nil},
		{"Put", func() { b.s.Put([]int16{1, 2}) }, []bool{true, false, false}, 1, nil},
		{"Put", func() { b.s.Put([]int16{3, 4}) }, []bool{true, true, false}, 2, nil},
		{"a wrong Put", func() { b.s.Put([]int16{3}) }, []bool{true, true, false}, 2, nil},
		{"Get", func() { b.s.Get(1) }, []bool{true, true, false}, 2, []int{1}},
		{"Get of none", func() { b.s.Get(2) }, []bool{true, true, false}, 2, []int{1}},
		{"Free", func() { b.s.Free(0) }, []bool{false, true, false}, 1, []int{1}},
		{"Free of none", func() { b.s.Free(0) }, []bool{false, true, false}, 1, []int{1}},
		{"Free of what was got", func() { b.s.Free(1) }, []bool{false, false, false}, 0, []int{1}},
		{"Put", func() { b.s.Put([]int16{5, 6}) }, []bool{true, false, false}, 1, []int{1}},
		{"Clone", func() { b.s.Clone().Put([]int16{7, 8}) }, []bool{true, false, false}, 1, []int{1}},
		{"Get", func() { b.s.Get(0) }, []bool{true, false, false}, 1, []int{1, 0}},
		{"Clear", func() { b.s.Clear() }, []bool{true, false, false}, 1, nil},
		{"Put", func() { b.s.Put([]int16{7, 8}) }, []bool{true, true, false}, 2, nil},
		{"Put", func() { b.s.Put([]int16{9, 0}) }, []bool{true, true, true}, 3, nil},
		{"Put of no room", func() { b.s.Put([]int16{9, 9}) }, []bool{true, true, true}, 3, nil},
	}
	for i, call := range calls {
		call.do()
		for range 2 {
			has := []bool{b.s.Has(0), b.s.Has(1), b.s.Has(2)}
			if !slices.Equal(has, call.has) || b.s.Count() != call.count || !slices.Equal(b.s.Trace(), call.trace) {
				t.Errorf("behind call %d, %s: Has %v, Count %d, Trace %v", i, call.what, has, b.s.Count(), b.s.Trace())
			}
		}
	}
}

// changes answers calls by name, each of which changes slots of dim 2 with 70 of room 72 taken.
func changes(t *testing.T) map[string]func(b *both) {
	return map[string]func(b *both){
		"Put":           func(b *both) { b.put(t, []int16{11, 12}) },
		"two Puts":      func(b *both) { b.put(t, []int16{11, 12}); b.put(t, []int16{13, 14}) },
		"Get":           func(b *both) { b.get(t, 5) },
		"two Gets":      func(b *both) { b.get(t, 69); b.get(t, 0) },
		"Free":          func(b *both) { b.free(t, 5) },
		"Free and Put":  func(b *both) { b.free(t, 65); b.put(t, []int16{15, 16}) },
		"Free of all":   func(b *both) { b.freeAll(t) },
		"Clear":         func(b *both) { b.clear() },
		"Clear and Get": func(b *both) { b.clear(); b.get(t, 3) },
		"nothing":       func(b *both) {},
	}
}

// TestClone: P9.2, a clone is the same, with its trace; what is done to one changes nothing of the other.
func TestClone(t *testing.T) {
	for first, one := range changes(t) {
		for second, other := range changes(t) {
			for _, turned := range []bool{false, true} {
				a := begun(t, 2, 72, 70)
				a.get(t, 9)
				a.get(t, 69)
				a.get(t, 9)
				c := a.clone(t)
				c.want(t, "cloned")
				if turned {
					a, c = c, a
				}
				what := fmt.Sprintf("%s, to the other %s, turned round %v", first, second, turned)
				one(a)
				c.want(t, what)
				other(c)
				a.want(t, what)
				c.want(t, what)
			}
		}
	}
}

// TestCloneOfFresh: P9.2, a clone of one with nothing in it has dim and room, and is cloned on.
func TestCloneOfFresh(t *testing.T) {
	b := made(t, 3, 2).clone(t).clone(t)
	b.want(t, "fresh")
	b.put(t, []int16{1, 2})
	b.put(t, []int16{1, 2, 3})
	b.put(t, []int16{4, 5, 6})
	b.put(t, []int16{7, 8, 9})
	b.get(t, 1)
	b.want(t, "filled")
}

// wantUnmade holds that s answers as one that nobody made.
func wantUnmade(t *testing.T, what string, s *slot.Slots) {
	t.Helper()
	for _, v := range [][]int16{nil, {}, {1}, {1, 2}, make([]int16, api.MaxDim), make([]int16, api.MaxDim+1)} {
		if n, err := s.Put(v); n != 0 || err != api.ErrNil {
			t.Errorf("%s: Put of %d numbers tells %d, error %d", what, len(v), n, err)
		}
	}
	for _, n := range append(odd(2), 0, 1, 5) {
		if v, err := s.Get(n); len(v) != 0 || err != api.ErrNil {
			t.Errorf("%s: Get(%d) tells %v, error %d", what, n, v, err)
		}
		if err := s.Free(n); err != api.ErrNil {
			t.Errorf("%s: Free(%d): error %d", what, n, err)
		}
		if s.Has(n) {
			t.Errorf("%s: Has(%d)", what, n)
		}
	}
	s.Clear()
	if s.Count() != 0 || len(s.Trace()) != 0 || s.Clone() != nil {
		t.Errorf("%s: Count %d, Trace %v, Clone %v", what, s.Count(), s.Trace(), s.Clone())
	}
}

// TestUnmade: rule 7, of a nil pointer, and of one that New and Clone did not answer, which no call makes.
func TestUnmade(t *testing.T) {
	refused, err := slot.New(0, 1)
	if err != api.ErrArg {
		t.Errorf("New(0, 1): error %d", err)
	}
	unmade := new(slot.Slots)
	for range 2 {
		wantUnmade(t, "nil", nil)
		wantUnmade(t, "refused by New", refused)
		wantUnmade(t, "of nothing", unmade)
		wantUnmade(t, "a clone of nothing", unmade.Clone())
	}
}

// TestMaxRoom: P9.1, the greatest room can be filled, and no slot is beyond it.
func TestMaxRoom(t *testing.T) {
	s, err := slot.New(1, api.MaxRoom)
	if err != api.OK {
		t.Fatal(err)
	}
	v := make([]int16, 1)
	for n := range api.MaxRoom {
		v[0] = int16(n)
		if got, err := s.Put(v); got != n || err != api.OK {
			t.Fatalf("Put %d: got %d, error %d", n, got, err)
		}
	}
	if n, err := s.Put(v); n != 0 || err != api.ErrFull {
		t.Errorf("Put of no room: got %d, error %d", n, err)
	}
	last := api.MaxRoom - 1
	if s.Count() != api.MaxRoom || !s.Has(last) || s.Has(api.MaxRoom) {
		t.Errorf("Count %d, Has %v, %v", s.Count(), s.Has(last), s.Has(api.MaxRoom))
	}
	for _, n := range []int{last, 1 << 23, 63} {
		if v, err := s.Get(n); !slices.Equal(v, []int16{int16(n)}) || err != api.OK {
			t.Errorf("Get(%d): got %v, error %d", n, v, err)
		}
		if err := s.Free(n); err != api.OK {
			t.Errorf("Free(%d): error %d", n, err)
		}
	}
	for _, want := range []int{63, 1 << 23, last} {
		if got, err := s.Put(v); got != want || err != api.OK {
			t.Errorf("got %d, error %d, want %d", got, err, want)
		}
	}
}

// TestRoomUnused: P9.1, slots that are free take no memory: a thousand of the greatest dim and room are made beside each other.
func TestRoomUnused(t *testing.T) {
	var all []*both
	for n := range 1000 {
		b := made(t, api.MaxDim, api.MaxRoom)
		b.put(t, vectorOf(api.MaxDim, n))
		all = append(all, b)
	}
	for _, b := range all {
		b.get(t, 0)
		b.get(t, api.MaxRoom-1)
	}
}
