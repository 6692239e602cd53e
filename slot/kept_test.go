package slot

import (
	"slices"
	"testing"

	"wayfinder/api"
)

// TestKeptNoMore: what was freed, and a trace that was cleared, is asked for by nobody any more, so nothing of it is kept.
func TestKeptNoMore(t *testing.T) {
	s, err := New(2, 3)
	if err != api.OK {
		t.Fatal(err)
	}
	for range 3 {
		s.Put([]int16{5, 6})
	}
	s.Get(1)
	s.Free(1)
	if want := []int16{5, 6, 0, 0, 5, 6}; !slices.Equal(s.vectors, want) {
		t.Errorf("freed: the vectors are %v, want %v", s.vectors, want)
	}
	s.Clear()
	if cap(s.trace) != 0 {
		t.Errorf("cleared: the trace has room for %d", cap(s.trace))
	}
}

// TestPlace: a slot's place ends where its numbers do, so that nothing put behind them comes into the next one's.
func TestPlace(t *testing.T) {
	s, err := New(2, 3)
	if err != api.OK {
		t.Fatal(err)
	}
	for n := range 3 {
		s.Put([]int16{int16(n), 7})
	}
	for n := range 3 {
		if place := s.place(n); !slices.Equal(place, []int16{int16(n), 7}) || cap(place) != 2 {
			t.Errorf("slot %d: place %v, room for %d", n, place, cap(place))
		}
	}
}
