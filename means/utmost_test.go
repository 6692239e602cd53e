package means_test

import (
	"fmt"
	"slices"
	"testing"

	"wayfinder/api"
	"wayfinder/means"
)

// TestMaxRoom: P12.1, P12.2, ErrLong of more than MaxRoom points, unless a point, a cent or the rounds are wrong; so many points are assigned, and no sum goes round.
func TestMaxRoom(t *testing.T) {
	// One list of memory serves for all that is asked, for it is a great one.
	points := slices.Repeat([][]int32{{wide}, {-wide}, {wide - 1}, {-wide + 1}}, api.MaxRoom/4+1)
	wantErr(t, "MaxRoom and 1 points", points[:api.MaxRoom+1], ones(1), 1, api.ErrLong)
	wantErr(t, "MaxRoom and 4 points", points, ones(1, 2), 1, api.ErrLong)
	long := points[:api.MaxRoom+1]
	for _, iters := range []int{0, api.MaxIters + 1} {
		wantErr(t, "too many points", long, ones(1), iters, api.ErrArg)
	}
	for _, cents := range [][][]int32{nil, {nil}, {{1, 2}}, ones(1, wide+1), ones(make([]int32, api.MaxLists+1)...)} {
		wantErr(t, fmt.Sprintf("too many points, %d wrong cents", len(cents)), long, cents, 1, api.ErrArg)
	}
	for _, at := range []int{0, api.MaxRoom / 2, api.MaxRoom} {
		for _, v := range [][]int32{nil, {1, 2}, {wide + 1}} {
			right := long[at]
			long[at] = v
			wantErr(t, fmt.Sprintf("too many points, wrong at %d", at), long, ones(1), 1, api.ErrArg)
			long[at] = right
		}
	}
	wantRoomFilled(t, points[:api.MaxRoom])
}

// wantRoomFilled goes through a round of MaxRoom points, of which each four are the greatest two and the least two numbers in turn.
func wantRoomFilled(t *testing.T, points [][]int32) {
	t.Helper()
	m, err := means.New(points, ones(1, 0), 1)
	if err != api.OK {
		t.Fatal(err)
	}
	for n := range points {
		if took, err := m.Step(); took != 3 || err != api.OK {
			t.Fatalf("point %d: got %d, error %d", n, took, err)
		}
		if got := m.Of(n); got != n%2 || m.Of(n+1) != -1 {
			t.Fatalf("point %d: Of tells %d, of the next one %d", n, got, m.Of(n+1))
		}
	}
	if m.Left() != 1 || m.Round() != 0 || m.Done() {
		t.Errorf("ahead of the move: Left %d, Round %d, Done %v", m.Left(), m.Round(), m.Done())
	}
	if took, err := m.Step(); took != 2 || err != api.OK || !m.Done() {
		t.Errorf("the move: got %d, error %d, Done %v", took, err, m.Done())
	}
	// A half below the greatest number is rounded up to it; a half above the least is rounded up, too.
	wantCents(t, "MaxRoom points", m.Cents(), ones(wide, -wide+1))
	// 2^17 less 1 and 2^17, squared, 2^22 times each, on both sides.
	const want = 2 * (1 << 22) * (wide*wide + (wide-1)*(wide-1))
	if got, err := means.Cost(points, ones(0)); got != want || err != api.OK {
		t.Errorf("Cost of MaxRoom points: got %d, error %d, want %d", got, err, want)
	}
}

// TestMostCost: P12.2, a cost of 2^62 is told, one above it is ErrRange; what may not be goes ahead of that.
func TestMostCost(t *testing.T) {
	far := filled(api.MaxDim, wide)
	near, next := filled(api.MaxDim, -wide), filled(api.MaxDim, -wide)
	next[api.MaxDim-1]++
	// The greatest distance is 2^46; the second cent is no nearer, and is no part of it.
	cents := [][]int32{near, near}
	points := slices.Repeat([][]int32{far}, 1<<16)
	tests := []struct {
		what   string
		points [][]int32
		want   int64
		err    api.Errno
	}{
		{"one less than 2^16 of the greatest", points[1:], 1<<62 - 1<<46, api.OK},
		{"and one more at 1", append(slices.Clip(points[1:]), next), 1<<62 - 1<<46 + 1, api.OK},
		{"2^62", points, 1 << 62, api.OK},
		{"2^62 and one more at 0", append(slices.Clip(points), near), 1 << 62, api.OK},
		{"2^62 and 1", append(slices.Clip(points), next), 0, api.ErrRange},
		{"1 and 2^62", slices.Concat([][]int32{next}, points), 0, api.ErrRange},
		{"2^62 and 2^46", append(slices.Clip(points), far), 0, api.ErrRange},
		{"2^62 and 1, with a wrong one behind", append(slices.Clip(points), next, nil), 0, api.ErrArg},
		{"2^62 and 1, with a wrong one ahead", slices.Concat([][]int32{far[1:]}, points), 0, api.ErrArg},
		{"twice 2^62 and more, which would go round", slices.Concat(points, points, points), 0, api.ErrRange},
	}
	for _, test := range tests {
		if got, err := means.Cost(test.points, cents); got != test.want || err != test.err {
			t.Errorf("%s: got %d, error %d, want %d, error %d", test.what, got, err, test.want, test.err)
		}
	}
}

// edges answers the least and the greatest number at place i.
func edges(l [][]int32, i int) (int32, int32) {
	least, greatest := l[0][i], l[0][i]
	for _, v := range l {
		least, greatest = min(least, v[i]), max(greatest, v[i])
	}
	return least, greatest
}

// TestCostFalls: P12.3, from round to round the cost does not grow; cents stay within the points' and first cents' least and greatest numbers.
func TestCostFalls(t *testing.T) {
	draw := draws(31)
	fell := 0
	for life := range 300 {
		dim := 1 + draw(4)
		far := []int32{1, 3, 10, 1000, wide}[draw(5)]
		points, cents := drawn(draw, 1+draw(40), dim, far), drawn(draw, 1+draw(6), dim, far)
		m, err := means.New(points, cents, 8)
		if err != api.OK {
			t.Fatal(err)
		}
		ahead := costOf(points, cents)
		for !m.Done() {
			if took, err := m.Step(); err != api.OK || took > (len(cents)+1)*dim {
				t.Fatalf("life %d: a unit took %d, error %d", life, took, err)
			}
			now := m.Cents()
			cost, err := means.Cost(points, now)
			if err != api.OK || cost > ahead || cost != costOf(points, now) {
				t.Errorf("life %d, round %d: the cost is %d, error %d, and was %d", life, m.Round(), cost, err, ahead)
			}
			if cost < ahead {
				fell++
			}
			ahead = cost
			wantWithin(t, now, slices.Concat(points, cents))
		}
	}
	if fell < 300 {
		t.Errorf("the cost fell %d times", fell)
	}
}

// wantWithin holds that no number of the cents is beyond those of all.
func wantWithin(t *testing.T, cents, all [][]int32) {
	t.Helper()
	for i := range all[0] {
		least, greatest := edges(all, i)
		low, high := edges(cents, i)
		if low < least || high > greatest {
			t.Errorf("cents go from %d to %d, the points and first cents from %d to %d", low, high, least, greatest)
		}
	}
}

// TestUtmostNumbers: P12.3, T6, long vectors of the greatest and the least numbers, many of them: no distance and no sum goes round.
func TestUtmostNumbers(t *testing.T) {
	for _, dim := range []int{1, 2, api.MaxDim} {
		low, high := filled(dim, -wide), filled(dim, wide)
		mixed := filled(dim, wide)
		mixed[0] = -wide
		for _, many := range []int{1, 2, 100} {
			points := slices.Concat(slices.Repeat([][]int32{low}, many), slices.Repeat([][]int32{high}, many), slices.Repeat([][]int32{mixed}, many))
			for _, cents := range [][][]int32{{low}, {high}, {low, high}, {high, low}, {high, high, low}, {mixed, high}} {
				b := begun(t, points, cents, 2)
				for range 2 {
					b.round(t)
					b.want(t, fmt.Sprintf("length %d, %d of each", dim, many))
				}
			}
		}
	}
}

// TestManyAtTheEdge: T6, so many points at the greatest number, or at the least, that their sum is far above 32 bits.
func TestManyAtTheEdge(t *testing.T) {
	const many = 1 << 18
	for _, x := range []int32{wide, -wide} {
		points := slices.Repeat([][]int32{{x, -x, x / 2}}, many)
		got, err := means.Run(points, [][]int32{{0, 0, 0}}, 1)
		if err != api.OK {
			t.Fatal(err)
		}
		wantCents(t, fmt.Sprint("number ", x), got, [][]int32{{x, -x, x / 2}})
	}
}
