package means_test

import (
	"fmt"
	"math"
	"slices"
	"testing"

	"wayfinder/api"
	"wayfinder/means"
)

// wide is how far from 0 a wide vector's number may be.
const wide = api.MaxWide

// hand is what means should have, worked out as the chapter's words say it, with no help of the program.
type hand struct {
	points, cents [][]int32
	iters         int
	of            []int
	// at is how many units were done.
	at int
}

// both are means and what they should have: each step is done to both, and its answer held against the one that should be.
type both struct {
	m *means.Means
	h *hand
}

// begun answers new means and what they should have, which shares nothing with what was handed in.
func begun(t *testing.T, points, cents [][]int32, iters int) *both {
	t.Helper()
	m, err := means.New(points, cents, iters)
	if m == nil || err != api.OK {
		t.Fatalf("New of %d points, %d cents, %d rounds: got %v, error %d", len(points), len(cents), iters, m, err)
	}
	h := &hand{points: cloned(points), cents: cloned(cents), iters: iters}
	for range points {
		h.of = append(h.of, -1)
	}
	return &both{m, h}
}

// units answers how many units there are in all.
func (h *hand) units() int {
	return h.iters * (len(h.points) + 1)
}

// step does a unit, and answers how many operations it took; ErrState, if there is none.
func (h *hand) step() (int, api.Errno) {
	if h.at == h.units() {
		return 0, api.ErrState
	}
	n := h.at % (len(h.points) + 1)
	h.at++
	numbers := len(h.cents) * len(h.cents[0])
	if n == len(h.points) {
		h.move()
		return numbers, api.OK
	}
	h.of[n] = nearestOf(h.cents, h.points[n])
	return numbers + len(h.cents[0]), api.OK
}

// move makes each cent the mean of the points that are of it.
func (h *hand) move() {
	for c, cent := range h.cents {
		for i := range cent {
			var sum, count int64
			for n, point := range h.points {
				if h.of[n] == c {
					sum += int64(point[i])
					count++
				}
			}
			if count > 0 {
				cent[i] = int32(meanOf(sum, count))
			}
		}
	}
}

// nearestOf answers which cent is nearest, of several as near the first.
func nearestOf(cents [][]int32, v []int32) int {
	best := 0
	for c := range cents {
		if apart(cents[c], v) < apart(cents[best], v) {
			best = c
		}
	}
	return best
}

// apart answers the sum of the squares of the differences.
func apart(a, b []int32) int64 {
	var sum int64
	for i := range a {
		d := int64(a[i]) - int64(b[i])
		sum += d * d
	}
	return sum
}

// meanOf answers the number that is nearest to sum by count, of two as near the greater one, by trying those that may be.
func meanOf(sum, count int64) int64 {
	best := sum/count - 1
	for m := best; m <= sum/count+1; m++ {
		if off(m*count-sum) <= off(best*count-sum) {
			best = m
		}
	}
	return best
}

// off answers how far n is from 0.
func off(n int64) int64 {
	return max(n, -n)
}

// costOf answers the sum of the points' distances to their nearest cents.
func costOf(points, cents [][]int32) int64 {
	var sum int64
	for _, v := range points {
		sum += apart(cents[nearestOf(cents, v)], v)
	}
	return sum
}

// step does one step to both.
func (b *both) step(t *testing.T) {
	t.Helper()
	at := b.h.at
	want, wantErr := b.h.step()
	if got, err := b.m.Step(); got != want || err != wantErr {
		t.Fatalf("step %d: got %d, error %d, want %d, error %d", at, got, err, want, wantErr)
	}
}

// round does all steps up to the end of the round.
func (b *both) round(t *testing.T) {
	t.Helper()
	for range len(b.h.points) + 1 {
		b.step(t)
	}
}

// want holds all that the means tell of themselves against what they should.
func (b *both) want(t *testing.T, what string) {
	t.Helper()
	left, round := b.h.units()-b.h.at, b.h.at/(len(b.h.points)+1)
	if b.m.Left() != left || b.m.Done() != (left == 0) || b.m.Round() != round {
		t.Fatalf("%s, unit %d: Left %d, Done %v, Round %d, want %d left, round %d", what, b.h.at, b.m.Left(), b.m.Done(), b.m.Round(), left, round)
	}
	wantCents(t, fmt.Sprintf("%s, unit %d", what, b.h.at), b.m.Cents(), b.h.cents)
	for n, want := range b.h.of {
		if got := b.m.Of(n); got != want {
			t.Fatalf("%s, unit %d: Of(%d) %d, want %d", what, b.h.at, n, got, want)
		}
	}
	for _, n := range noPoints(len(b.h.points)) {
		if got := b.m.Of(n); got != -1 {
			t.Fatalf("%s, unit %d: Of(%d) %d of %d points", what, b.h.at, n, got, len(b.h.points))
		}
	}
}

// live does all units, with what is told held ahead of and behind each, and then asks for more.
func (b *both) live(t *testing.T, what string) {
	t.Helper()
	for range b.h.units() {
		b.want(t, what)
		b.step(t)
	}
	for range 3 {
		b.want(t, what)
		b.step(t)
	}
	b.want(t, what)
}

// noPoints answers numbers of points that are not there.
func noPoints(points int) []int {
	return []int{-1, -2, -points, math.MinInt32, math.MinInt, math.MinInt + 1, points, points + 1, 2*points + 2, api.MaxRoom, 1 << 32, math.MaxInt32, math.MaxInt}
}

// wantCents holds cents against those that should be.
func wantCents(t *testing.T, what string, got, want [][]int32) {
	t.Helper()
	if !sameAll(got, want) {
		t.Fatalf("%s: cents %v, want %v", what, got[:min(5, len(got))], want[:min(5, len(want))])
	}
}

// sameAll tells whether both have the same vectors.
func sameAll(a, b [][]int32) bool {
	return slices.EqualFunc(a, b, func(v, w []int32) bool { return slices.Equal(v, w) })
}

// cloned answers the same vectors in memory of their own.
func cloned(l [][]int32) [][]int32 {
	var c [][]int32
	for _, v := range l {
		c = append(c, slices.Clone(v))
	}
	return c
}

// ones answers vectors of one number each.
func ones(numbers ...int32) [][]int32 {
	var l [][]int32
	for _, x := range numbers {
		l = append(l, []int32{x})
	}
	return l
}

// filled answers a vector of dim numbers, all of them x.
func filled(dim int, x int32) []int32 {
	return slices.Repeat([]int32{x}, dim)
}

// draws answers a function that tells numbers from 0 to below n, always the same ones.
func draws(seed uint64) func(n int) int {
	return func(n int) int {
		seed = seed*6364136223846793005 + 1442695040888963407
		return int(seed>>33) % n
	}
}

// drawn answers so many vectors of dim numbers, none farther off 0 than far; some of them stand at the edge.
func drawn(draw func(n int) int, many, dim int, far int32) [][]int32 {
	l := make([][]int32, many)
	for i := range l {
		for range dim {
			x := int32(draw(int(2*far+1))) - far
			if draw(8) == 0 {
				x = []int32{-far, far}[draw(2)]
			}
			l[i] = append(l[i], x)
		}
	}
	return l
}

// TestLives: P12.1, P12.2, T6, means of drawn points and cents, step by step, against means by hand: near ones, of which many are as near, and far ones.
func TestLives(t *testing.T) {
	draw := draws(1)
	for life := range 400 {
		dim := 1 + draw(4)
		far := []int32{1, 2, 5, 100, wide}[draw(5)]
		points := drawn(draw, draw(20), dim, far)
		cents := drawn(draw, 1+draw(7), dim, far)
		b := begun(t, points, cents, 1+draw(6))
		b.live(t, fmt.Sprint("life ", life))
		wantRun(t, points, cents, b.h)
	}
}

// wantRun holds Run against means by hand that are done.
func wantRun(t *testing.T, points, cents [][]int32, done *hand) {
	t.Helper()
	got, err := means.Run(points, cents, done.iters)
	if err != api.OK {
		t.Fatalf("Run of %d points, %d cents, %d rounds: error %d", len(points), len(cents), done.iters, err)
	}
	wantCents(t, fmt.Sprintf("Run of %d points, %d cents, %d rounds", len(points), len(cents), done.iters), got, done.cents)
}

// TestLongLives: P12.1, P12.2, means of many cents or of long vectors, round by round, against means by hand.
func TestLongLives(t *testing.T) {
	draw := draws(2)
	for _, size := range []struct{ points, cents, dim, iters int }{
		{300, 40, 3, 8}, {40, 3, api.MaxDim, 3}, {30, 4, api.MaxDim - 1, 3}, {20, api.MaxLists, 2, 2}, {30, api.MaxLists - 1, 1, 2}, {400, 2, 1, api.MaxIters}, {9, 5, 2, api.MaxIters - 1},
	} {
		points := drawn(draw, size.points, size.dim, wide)
		cents := drawn(draw, size.cents, size.dim, wide)
		b := begun(t, points, cents, size.iters)
		b.want(t, fmt.Sprint("at first ", size))
		for range size.iters {
			b.round(t)
			b.want(t, fmt.Sprint("behind a round ", size))
		}
		b.step(t)
		wantRun(t, points, cents, b.h)
	}
}
