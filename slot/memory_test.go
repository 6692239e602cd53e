package slot_test

import (
	"slices"
	"testing"
)

// spoil writes over all of l, and over its spare room.
func spoil[N int | int16](l []N) {
	l = l[:cap(l)]
	for i := range l {
		l[i] = -77
	}
}

// spoiled tells whether l and its spare room are as spoil left them.
func spoiled[N int | int16](l []N) bool {
	return !slices.ContainsFunc(l[:cap(l)], func(n N) bool { return n != -77 })
}

// TestHandedIn: rule 3, a vector that was handed in is not changed, its spare room neither, nor looked at later.
func TestHandedIn(t *testing.T) {
	b := made(t, 2, 200)
	row := make([]int16, 6)
	for i := range 200 {
		copy(row, []int16{9, 9, int16(i), int16(-i), 8, 8})
		b.put(t, row[2:4])
		if i%3 == 1 {
			b.free(t, i)
			b.put(t, row[2:4])
		}
		if !slices.Equal(row, []int16{9, 9, int16(i), int16(-i), 8, 8}) {
			t.Fatalf("Put %d changed what it was handed: %v", i, row)
		}
		spoil(row)
	}
	b.put(t, row[2:4])
	b.want(t, "handed in and spoiled")
}

// TestVectorOfItsOwn: rule 3, whoever changes a vector that was got, or appends to it, changes no slot and no other vector, and no later call changes it.
func TestVectorOfItsOwn(t *testing.T) {
	b := filled(t, 3, 70)
	var got [][]int16
	for n := range 70 {
		got = append(got, b.get(t, n), b.get(t, n))
	}
	for i, v := range got {
		if !slices.Equal(v, vectorOf(3, i/2)) {
			t.Fatalf("vector %d is changed by one that was spoiled: %v", i, v)
		}
		_ = append(v, 5, 6, 7)
		spoil(v)
		b.want(t, "spoiled")
	}
	for n := range 70 {
		b.free(t, n)
		b.put(t, vectorOf(3, 100+n))
		b.get(t, n)
	}
	c := b.clone(t)
	b.freeAll(t)
	b.want(t, "freed")
	c.want(t, "a clone")
	for i, v := range got {
		if !spoiled(v) {
			t.Errorf("vector %d was changed behind: %v", i, v)
		}
	}
}

// TestVectorStays: rule 3, a vector that was got stays as it is when its slot is freed and given again.
func TestVectorStays(t *testing.T) {
	b := filled(t, 4, 2)
	v := b.get(t, 1)
	want := slices.Clone(v)
	b.free(t, 1)
	if !slices.Equal(v, want) {
		t.Errorf("freed: %v, want %v", v, want)
	}
	b.put(t, vectorOf(4, 99))
	if !slices.Equal(v, want) {
		t.Errorf("given again: %v, want %v", v, want)
	}
}

// TestTraceOfItsOwn: rule 3, whoever changes a trace that was answered, or appends to it, changes nothing, and no later call changes it.
func TestTraceOfItsOwn(t *testing.T) {
	b := filled(t, 1, 9)
	var told [][]int
	for i := range 100 {
		b.get(t, i%9)
		for range 2 {
			trace := b.s.Trace()
			_ = append(trace, 3, 4)
			spoil(trace)
			told = append(told, trace)
			b.want(t, "spoiled")
		}
	}
	c := b.clone(t)
	c.get(t, 1)
	b.clear()
	b.get(t, 8)
	b.want(t, "cleared")
	c.want(t, "a clone")
	for i, trace := range told {
		if !spoiled(trace) {
			t.Errorf("trace %d was changed behind: %v", i, trace)
		}
	}
}

// TestTraceStays: rule 3, a trace that was answered stays as it is behind Clear and other Gets.
func TestTraceStays(t *testing.T) {
	b := filled(t, 1, 9)
	b.get(t, 4)
	b.get(t, 5)
	trace := b.s.Trace()
	b.clear()
	b.get(t, 6)
	b.get(t, 7)
	if !slices.Equal(trace, []int{4, 5}) {
		t.Errorf("got %v", trace)
	}
}

// TestNeighbours: rule 3, a Put, a Free or a Get at one slot changes no other, at the first, the last and those between.
func TestNeighbours(t *testing.T) {
	for _, dim := range []int{1, 2, 5} {
		for n := range 5 {
			b := filled(t, dim, 5)
			b.free(t, n)
			b.want(t, "freed")
			b.put(t, vectorOf(dim, 77))
			b.want(t, "put")
			v := b.get(t, n)
			spoil(v)
			b.want(t, "got")
		}
	}
}
