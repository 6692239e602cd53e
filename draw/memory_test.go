package draw_test

import (
	"slices"
	"testing"

	"wayfinder/api"
	"wayfinder/draw"
)

// spoil writes over all of l, and over its spare room.
func spoil[N int | uint64](l []N) {
	l = l[:cap(l)]
	for i := range l {
		l[i] = 77
	}
}

// calls answers what makes picks, each with how many it makes of n.
func calls() map[string]func(draws []uint64, n int) ([]int, api.Errno) {
	return map[string]func(draws []uint64, n int) ([]int, api.Errno){
		"Order":                draw.Order,
		"Picks, fewer than n":  func(draws []uint64, n int) ([]int, api.Errno) { return draw.Picks(draws, n, n-1) },
		"Picks, as many as n":  func(draws []uint64, n int) ([]int, api.Errno) { return draw.Picks(draws, n, n) },
		"Picks, more than n":   func(draws []uint64, n int) ([]int, api.Errno) { return draw.Picks(draws, n, n+3) },
		"Picks, rounds of n":   func(draws []uint64, n int) ([]int, api.Errno) { return draw.Picks(draws, n, 3*n) },
		"Picks, most of all":   func(draws []uint64, n int) ([]int, api.Errno) { return draw.Picks(draws, n, api.MaxPicks) },
		"Picks, none":          func(draws []uint64, n int) ([]int, api.Errno) { return draw.Picks(draws, n, 0) },
		"Picks, that is wrong": func(draws []uint64, n int) ([]int, api.Errno) { return draw.Picks(draws, -n, n) },
		"Order, that is wrong": func(draws []uint64, n int) ([]int, api.Errno) { return draw.Order(draws, -n) },
	}
}

// TestDrawsHandedIn: rule 3, draws that were handed in are not changed, nor looked at later; their spare room is neither read nor written.
func TestDrawsHandedIn(t *testing.T) {
	next := numbers(11)
	for what, call := range calls() {
		for _, n := range []int{1, 2, 5, 40} {
			for _, length := range []int{0, 1, 3, n, n + 2} {
				held := slices.Concat(drawn(next, length), []uint64{most, 12345, 3, 1 << 63})
				was := slices.Clone(held)
				want, _ := call(slices.Clone(held[:length]), n)
				want = slices.Clone(want)
				got, _ := call(held[:length], n)
				if !slices.Equal(held, was) {
					t.Errorf("%s, of %d: the draws were changed: %v, want %v", what, n, held, was)
				}
				spoil(held)
				if !slices.Equal(got, want) {
					t.Errorf("%s, of %d: got %v, want %v", what, n, got, want)
				}
			}
		}
	}
}

// TestDrawHandedIn: rule 3, Draw neither changes the list nor goes beyond it.
func TestDrawHandedIn(t *testing.T) {
	held := []uint64{4, 5, 6, 7, 8}
	for i := -3; i < 12; i++ {
		if got := draw.Draw(held[:2], i); i >= 0 && got != uint64(4+i%2) || i < 0 && got != 0 {
			t.Errorf("Draw at %d: got %d", i, got)
		}
	}
	if got := draw.Draw(held[:0], 0); got != 0 {
		t.Errorf("Draw of none with spare room: got %d", got)
	}
	if !slices.Equal(held, []uint64{4, 5, 6, 7, 8}) {
		t.Errorf("the draws were changed: %v", held)
	}
}

// TestPicksOfTheirOwn: rule 3, whoever changes picks that were answered, or appends to them, changes no other ones, ahead or behind.
func TestPicksOfTheirOwn(t *testing.T) {
	draws := drawn(numbers(12), 6)
	was := slices.Clone(draws)
	for what, call := range calls() {
		for _, n := range []int{1, 2, 5, 40} {
			first, _ := call(draws, n)
			want := slices.Clone(first)
			second, _ := call(draws, n)
			_ = append(second, 5, 6)
			spoil(second)
			third, _ := call(draws, n)
			if !slices.Equal(first, want) || !slices.Equal(third, want) || !slices.Equal(draws, was) {
				t.Errorf("%s, of %d: picks that were spoiled changed others", what, n)
			}
			if slices.ContainsFunc(second, func(x int) bool { return x != 77 }) {
				t.Errorf("%s, of %d: picks were changed behind", what, n)
			}
		}
	}
}

// TestNothingBehind: of the rounds of picks that are cut off nothing is handed out, in the spare room neither.
func TestNothingBehind(t *testing.T) {
	draws := drawn(numbers(13), 6)
	for what, call := range calls() {
		for _, n := range []int{1, 2, 5, 40} {
			l, _ := call(draws, n)
			if slices.ContainsFunc(l[len(l):cap(l)], func(x int) bool { return x != 0 }) {
				t.Errorf("%s, of %d: the spare room has %v", what, n, l[len(l):cap(l)])
			}
		}
	}
}

// TestListHandedIn: rule 3, Distinct neither changes the list nor looks at its spare room.
func TestListHandedIn(t *testing.T) {
	for _, l := range [][]int{{}, {5}, {9, 3, -4, 7}, {9, 3, 9, -4}, {2, 2, 1, 1, 0, 0}, {4, 3, 2, 1}} {
		want := draw.Distinct(slices.Clone(l))
		held := slices.Concat(l, l, []int{100, -100, 100})
		was := slices.Clone(held)
		if got := draw.Distinct(held[:len(l)]); got != want {
			t.Errorf("Distinct of %v with spare room: got %v", l, got)
		}
		if !slices.Equal(held, was) {
			t.Errorf("the list was changed: %v, want %v", held, was)
		}
	}
}
