package slot_test

import (
	"fmt"
	"maps"
	"math"
	"slices"
	"testing"

	"wayfinder/api"
	"wayfinder/slot"
)

// hand is what slots should have, kept with no help of the program.
type hand struct {
	dim, room int
	vectors   map[int][]int16
	trace     []int
}

// both are slots and what they should have: each call is done to both, and its answer held against the one that should be.
type both struct {
	s *slot.Slots
	h hand
}

// made answers new slots of that dim and room.
func made(t *testing.T, dim, room int) *both {
	t.Helper()
	s, err := slot.New(dim, room)
	if s == nil || err != api.OK {
		t.Fatalf("New(%d, %d): got %v, error %d", dim, room, s, err)
	}
	return &both{s, hand{dim: dim, room: room, vectors: map[int][]int16{}}}
}

// begun answers slots the first of which, so many, are taken, each by its own vector.
func begun(t *testing.T, dim, room, taken int) *both {
	t.Helper()
	b := made(t, dim, room)
	for n := range taken {
		b.put(t, vectorOf(dim, n))
	}
	return b
}

// filled answers slots all of which are taken.
func filled(t *testing.T, dim, room int) *both {
	t.Helper()
	return begun(t, dim, room, room)
}

// vectorOf answers a vector of dim numbers that is another one for each number up to some thousands.
func vectorOf(dim, number int) []int16 {
	v := make([]int16, dim)
	for i := range v {
		v[i] = int16(number*31 + i*7 - 9000)
	}
	return v
}

// clone answers a clone, and what it should have.
func (b *both) clone(t *testing.T) *both {
	t.Helper()
	c := b.s.Clone()
	if c == nil || c == b.s {
		t.Fatalf("Clone: got %p of %p", c, b.s)
	}
	h := b.h
	h.vectors = maps.Clone(h.vectors)
	h.trace = slices.Clone(h.trace)
	return &both{c, h}
}

// least answers the least slot that is free; none, if that is the room.
func (h *hand) least() int {
	n := 0
	for h.vectors[n] != nil {
		n++
	}
	return n
}

func (b *both) put(t *testing.T, v []int16) int {
	t.Helper()
	n, err := 0, api.OK
	switch {
	case len(v) != b.h.dim:
		err = api.ErrArg
	case b.h.least() == b.h.room:
		err = api.ErrFull
	default:
		n = b.h.least()
		b.h.vectors[n] = slices.Clone(v)
	}
	if got, e := b.s.Put(v); got != n || e != err {
		t.Fatalf("Put of %d numbers: got %d, error %d, want %d, error %d", len(v), got, e, n, err)
	}
	return n
}

func (b *both) get(t *testing.T, n int) []int16 {
	t.Helper()
	want, err := b.h.vectors[n], api.OK
	if want == nil {
		err = api.ErrNone
	} else {
		b.h.trace = append(b.h.trace, n)
	}
	got, e := b.s.Get(n)
	if !slices.Equal(got, want) || e != err {
		t.Fatalf("Get(%d): got %v, error %d, want %v, error %d", n, got, e, want, err)
	}
	return got
}

func (b *both) free(t *testing.T, n int) {
	t.Helper()
	err := api.OK
	if b.h.vectors[n] == nil {
		err = api.ErrNone
	}
	delete(b.h.vectors, n)
	if e := b.s.Free(n); e != err {
		t.Fatalf("Free(%d): error %d, want %d", n, e, err)
	}
}

func (b *both) clear() {
	b.s.Clear()
	b.h.trace = nil
}

func (b *both) freeAll(t *testing.T) {
	t.Helper()
	for n := range b.h.room {
		b.free(t, n)
	}
}

// odd answers numbers of slots that are never there.
func odd(room int) []int {
	return []int{-1, -2, -63, -64, -65, -api.MaxRoom, room, room + 1, room + 63, room + 64, 2*room + 64, api.MaxRoom, api.MaxRoom + 1,
		math.MaxInt32, math.MinInt32, 1 << 32, 1 << 54, 1 << 58, 1<<63 - 64, math.MaxInt, math.MinInt, math.MinInt + 1}
}

// want holds all that the slots tell of themselves against what they should; their vectors are got of a clone, for the trace's sake.
func (b *both) want(t *testing.T, what string) {
	t.Helper()
	if got := b.s.Count(); got != len(b.h.vectors) {
		t.Fatalf("%s: Count %d, want %d", what, got, len(b.h.vectors))
	}
	if got := b.s.Trace(); !slices.Equal(got, b.h.trace) {
		t.Fatalf("%s: Trace %v, want %v", what, got, b.h.trace)
	}
	for n := range b.h.room {
		if got := b.s.Has(n); got != (b.h.vectors[n] != nil) {
			t.Fatalf("%s: Has(%d) %v", what, n, got)
		}
	}
	c := b.s.Clone()
	for _, n := range odd(b.h.room) {
		_, err := c.Get(n)
		if b.s.Has(n) || err != api.ErrNone {
			t.Fatalf("%s: slot %d: Has %v, Get's error %d", what, n, b.s.Has(n), err)
		}
	}
	for n := range b.h.room {
		v, err := c.Get(n)
		if !slices.Equal(v, b.h.vectors[n]) || (err == api.OK) != (b.h.vectors[n] != nil) {
			t.Fatalf("%s: slot %d has %v, error %d, want %v", what, n, v, err, b.h.vectors[n])
		}
	}
}

// draws answers a function that tells numbers from 0 to below n, always the same ones.
func draws(seed uint64) func(n int) int {
	return func(n int) int {
		seed = seed*6364136223846793005 + 1442695040888963407
		return int(seed>>33) % n
	}
}

// drawnVector answers a vector of dim numbers, also of those at the edges.
func drawnVector(draw func(n int) int, dim int) []int16 {
	v := make([]int16, dim)
	for i := range v {
		v[i] = int16(draw(1<<16) - 1<<15)
		if draw(4) == 0 {
			v[i] = []int16{math.MinInt16, -1, 0, 1, math.MaxInt16}[draw(5)]
		}
	}
	return v
}

// drawnSlot answers a slot that is mostly there.
func drawnSlot(draw func(n int) int, room int) int {
	if draw(10) == 0 {
		return odd(room)[draw(len(odd(room)))]
	}
	return draw(room)
}

// step does one call that is drawn.
func (b *both) step(t *testing.T, draw func(n int) int, puts int) {
	t.Helper()
	switch n := draw(20); {
	case n < puts:
		b.put(t, drawnVector(draw, b.h.dim))
	case n == 17:
		b.put(t, drawnVector(draw, b.h.dim+1-2*draw(2)))
	case n == 18:
		b.get(t, drawnSlot(draw, b.h.room))
	case n == 19 && draw(10) == 0:
		b.clear()
	default:
		b.free(t, drawnSlot(draw, b.h.room))
	}
}

// TestLives: P9.1 to P9.3, drawn calls against slots kept by hand, now with more Puts than Frees, now with fewer; clones live on beside.
func TestLives(t *testing.T) {
	draw := draws(7)
	for _, room := range []int{1, 2, 5, 63, 64, 65, 100, 128, 130, 200} {
		for life := range 4 {
			lives := []*both{made(t, 1+draw(5), room)}
			for call := range 1200 {
				for _, b := range lives {
					b.step(t, draw, 4+call/100%12)
				}
				if call%300 == 299 {
					lives = append(lives, lives[draw(len(lives))].clone(t))
				}
				if call%40 == 0 {
					for i, b := range lives {
						b.want(t, fmt.Sprintf("room %d, life %d, call %d, clone %d", room, life, call, i))
					}
				}
			}
		}
	}
}
