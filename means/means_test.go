package means_test

import (
	"fmt"
	"math"
	"slices"
	"testing"

	"wayfinder/api"
	"wayfinder/means"
)

// TestExample: the chapter's row.
func TestExample(t *testing.T) {
	points := ones(0, 1, 10, 11)
	for i, want := range [][][]int32{ones(0, 7), ones(1, 11)} {
		got, err := means.Run(points, ones(0, 1), i+1)
		if err != api.OK {
			t.Errorf("%d rounds: error %d", i+1, err)
		}
		wantCents(t, fmt.Sprint(i+1, " rounds"), got, want)
	}
}

// TestExampleSteps: P12.1, P12.2, the chapter's row unit by unit, with all that is told written out.
func TestExampleSteps(t *testing.T) {
	m, err := means.New(ones(0, 1, 10, 11), ones(0, 1), 2)
	if err != api.OK {
		t.Fatal(err)
	}
	units := []struct {
		operations  int
		left, round int
		cents       [][]int32
		of          []int
	}{
		{0, 10, 0, ones(0, 1), []int{-1, -1, -1, -1}},
		{3, 9, 0, ones(0, 1), []int{0, -1, -1, -1}},
		{3, 8, 0, ones(0, 1), []int{0, 1, -1, -1}},
		{3, 7, 0, ones(0, 1), []int{0, 1, 1, -1}},
		{3, 6, 0, ones(0, 1), []int{0, 1, 1, 1}},
		{2, 5, 1, ones(0, 7), []int{0, 1, 1, 1}},
		{3, 4, 1, ones(0, 7), []int{0, 1, 1, 1}},
		{3, 3, 1, ones(0, 7), []int{0, 0, 1, 1}},
		{3, 2, 1, ones(0, 7), []int{0, 0, 1, 1}},
		{3, 1, 1, ones(0, 7), []int{0, 0, 1, 1}},
		{2, 0, 2, ones(1, 11), []int{0, 0, 1, 1}},
	}
	for i, unit := range units {
		if i > 0 {
			if n, err := m.Step(); n != unit.operations || err != api.OK {
				t.Errorf("unit %d: got %d, error %d, want %d", i, n, err, unit.operations)
			}
		}
		if m.Left() != unit.left || m.Round() != unit.round || m.Done() != (i == 10) {
			t.Errorf("unit %d: Left %d, Round %d, Done %v", i, m.Left(), m.Round(), m.Done())
		}
		wantCents(t, fmt.Sprint("unit ", i), m.Cents(), unit.cents)
		if of := []int{m.Of(0), m.Of(1), m.Of(2), m.Of(3)}; !slices.Equal(of, unit.of) {
			t.Errorf("unit %d: Of %v, want %v", i, of, unit.of)
		}
	}
}

// calls answers the calls that take points and cents, each of which answers its error, and whether anything stands beside it.
func calls(iters int) map[string]func(points, cents [][]int32) (api.Errno, bool) {
	all := map[string]func(points, cents [][]int32) (api.Errno, bool){
		"New": func(points, cents [][]int32) (api.Errno, bool) {
			m, err := means.New(points, cents, iters)
			return err, m != nil
		},
		"Run": func(points, cents [][]int32) (api.Errno, bool) {
			l, err := means.Run(points, cents, iters)
			return err, len(l) > 0
		},
	}
	if iters == 1 {
		all["Cost"] = func(points, cents [][]int32) (api.Errno, bool) {
			n, err := means.Cost(points, cents)
			return err, err == api.OK || n != 0
		}
	}
	return all
}

// wantErr holds the error of New and Run, and of Cost where it is one round, against the one that should be.
func wantErr(t *testing.T, what string, points, cents [][]int32, iters int, want api.Errno) {
	t.Helper()
	for name, call := range calls(iters) {
		if err, beside := call(points, cents); err != want || beside != (want == api.OK) {
			t.Errorf("%s of %s, %d rounds: error %d, want %d, anything beside it: %v", name, what, iters, err, want, beside)
		}
	}
}

// oddIters are rounds that may not be done.
func oddIters() []int {
	return []int{0, -1, -2, -63, -64, api.MaxIters + 1, api.MaxIters + 2, 2 * api.MaxIters, 1 << 16, 1<<16 + 1, math.MaxInt32, math.MinInt32, 1 << 32, 1<<32 + 1, math.MaxInt, math.MinInt, math.MinInt + 1}
}

// TestIters: P12.1, P12.2, rounds go from 1 to MaxIters.
func TestIters(t *testing.T) {
	for _, iters := range []int{1, 2, 63, api.MaxIters} {
		wantErr(t, "one point", ones(5), ones(3), iters, api.OK)
		wantErr(t, "no point", nil, ones(3), iters, api.OK)
	}
	for _, iters := range oddIters() {
		wantErr(t, "one point", ones(5), ones(3), iters, api.ErrArg)
		wantErr(t, "no point", nil, ones(3), iters, api.ErrArg)
		wantErr(t, "nothing", nil, nil, iters, api.ErrArg)
		wantErr(t, "wrong points and cents", [][]int32{nil, {1, 2}}, [][]int32{{wide + 1}, nil}, iters, api.ErrArg)
	}
}

// TestManyCents: P12.1, P12.2, there are from 1 to MaxLists cents.
func TestManyCents(t *testing.T) {
	draw := draws(3)
	points := drawn(draw, 3, 2, 100)
	for _, many := range []int{1, 2, api.MaxLists - 1, api.MaxLists} {
		wantErr(t, fmt.Sprint(many, " cents"), points, drawn(draw, many, 2, 100), 1, api.OK)
	}
	for _, cents := range [][][]int32{nil, {}, drawn(draw, api.MaxLists+1, 2, 100), drawn(draw, 2*api.MaxLists, 2, 100), make([][]int32, api.MaxLists+1)} {
		wantErr(t, fmt.Sprint(len(cents), " cents"), points, cents, 1, api.ErrArg)
		wantErr(t, fmt.Sprint(len(cents), " cents, no points"), nil, cents, 1, api.ErrArg)
		wantErr(t, fmt.Sprint(len(cents), " cents, a wrong point"), [][]int32{nil}, cents, 1, api.ErrArg)
	}
}

// TestLength: P12.1, P12.2, cents and points have from 1 to MaxDim numbers.
func TestLength(t *testing.T) {
	for _, dim := range []int{1, 2, api.MaxDim - 1, api.MaxDim} {
		some := [][]int32{filled(dim, 1), filled(dim, -1), filled(dim, 3)}
		wantErr(t, fmt.Sprint(dim, " numbers"), some, some, 2, api.OK)
		wantErr(t, fmt.Sprint(dim, " numbers, no points"), nil, some, 1, api.OK)
	}
	for _, dim := range []int{0, api.MaxDim + 1, api.MaxDim + 2, 2 * api.MaxDim} {
		some := [][]int32{filled(dim, 1), filled(dim, -1), filled(dim, 3)}
		wantErr(t, fmt.Sprint(dim, " numbers"), some, some, 1, api.ErrArg)
		wantErr(t, fmt.Sprint(dim, " numbers, no points"), nil, some, 1, api.ErrArg)
	}
}

// wrongs answers vectors that may not stand among those of dim numbers.
func wrongs(dim int) map[string][]int32 {
	all := map[string][]int32{
		"nil":                 nil,
		"empty":               {},
		"shorter":             filled(dim-1, 1),
		"longer":              filled(dim+1, 1),
		"longest":             filled(api.MaxDim, 1),
		"too long":            filled(api.MaxDim+1, 1),
		"shorter and wrong":   filled(dim-1, wide+1),
		"longer behind right": append(filled(dim, 1), wide+1),
	}
	for _, x := range []int32{wide + 1, -wide - 1, math.MaxInt32, math.MinInt32, 1 << 18, -1 << 18} {
		for _, at := range []int{0, dim / 2, dim - 1} {
			v := filled(dim, 1)
			v[at] = x
			all[fmt.Sprintf("%d at place %d", x, at)] = v
		}
	}
	return all
}

// TestWrongVectors: P12.1, P12.2, each cent and each point is as long and may be, at the first place, a middle one and the last.
func TestWrongVectors(t *testing.T) {
	draw := draws(4)
	for _, dim := range []int{1, 2, 5} {
		points, cents := drawn(draw, 7, dim, wide), drawn(draw, 5, dim, wide)
		wantErr(t, "right ones", points, cents, 1, api.OK)
		for name, v := range wrongs(dim) {
			for _, at := range []int{0, 2, 4} {
				wrong := cloned(cents)
				wrong[at] = v
				what := fmt.Sprintf("length %d, cent %d that is %s", dim, at, name)
				wantErr(t, what, points, wrong, 1, api.ErrArg)
				wantErr(t, what+", no points", nil, wrong, 1, api.ErrArg)
			}
			for _, at := range []int{0, 3, 6} {
				wrong := cloned(points)
				wrong[at] = v
				wantErr(t, fmt.Sprintf("length %d, point %d that is %s", dim, at, name), wrong, cents, 1, api.ErrArg)
			}
		}
	}
}

// TestSeveralWrong: P12.1, P12.2, ErrArg where several are wrong, of one kind or of several.
func TestSeveralWrong(t *testing.T) {
	for first, v := range wrongs(2) {
		for second, w := range wrongs(2) {
			what := first + " and " + second
			right := [][]int32{{1, 2}, {3, 4}, {5, 6}}
			both := [][]int32{v, {1, 2}, w}
			wantErr(t, "points that are "+what, both, right, 1, api.ErrArg)
			wantErr(t, "cents that are "+what, right, both, 1, api.ErrArg)
			wantErr(t, "points and cents that are "+what, both, both, 1, api.ErrArg)
			wantErr(t, "a point and a cent that are "+what, [][]int32{v}, [][]int32{{1, 2}, w}, 1, api.ErrArg)
		}
	}
	wantErr(t, "points of another length than cents", [][]int32{{1, 2}, {3, 4}}, ones(1, 2), 1, api.ErrArg)
	wantErr(t, "points of another length than cents", ones(1, 2), [][]int32{{1, 2}, {3, 4}}, 1, api.ErrArg)
}

// TestRange: P12.1, P12.2, numbers from -MaxWide to MaxWide, in points and cents.
func TestRange(t *testing.T) {
	for _, x := range []int32{-wide, -wide + 1, -1, 0, 1, wide - 1, wide} {
		wantErr(t, fmt.Sprint("a point ", x), ones(0, x), ones(0, 1), 1, api.OK)
		wantErr(t, fmt.Sprint("a cent ", x), ones(0, 1), ones(0, x), 1, api.OK)
		begun(t, ones(0, x, x), ones(x, 1), 2).live(t, fmt.Sprint("number ", x))
	}
	for _, x := range []int32{-wide - 1, -wide - 2, wide + 1, wide + 2, math.MaxInt32, math.MinInt32} {
		wantErr(t, fmt.Sprint("a point ", x), ones(0, x), ones(0, 1), 1, api.ErrArg)
		wantErr(t, fmt.Sprint("a cent ", x), ones(0, 1), ones(0, x), 1, api.ErrArg)
	}
}

// TestNoPoints: P12.1, P12.2, without points a round is one unit, cents stay, and nothing costs.
func TestNoPoints(t *testing.T) {
	for _, none := range [][][]int32{nil, {}} {
		for _, iters := range []int{1, 2, api.MaxIters} {
			b := begun(t, none, [][]int32{{1, 2}, {-3, 4}}, iters)
			if b.m.Left() != iters {
				t.Errorf("%d rounds: Left %d", iters, b.m.Left())
			}
			b.live(t, fmt.Sprint("no points, rounds ", iters))
			wantRun(t, none, [][]int32{{1, 2}, {-3, 4}}, b.h)
		}
		if n, err := means.Cost(none, ones(5)); n != 0 || err != api.OK {
			t.Errorf("Cost of no points: %d, error %d", n, err)
		}
	}
}

// TestOperations: P12.1, an assignment takes cents by length, and length; a move cents by length, whether cents have points or not.
func TestOperations(t *testing.T) {
	draw := draws(5)
	for _, size := range []struct{ cents, dim int }{{1, 1}, {2, 1}, {1, 2}, {3, 4}, {7, 5}, {2, api.MaxDim}, {api.MaxLists, 3}} {
		points := drawn(draw, 3, size.dim, 9)
		m, err := means.New(points, drawn(draw, size.cents, size.dim, 9), 3)
		if err != api.OK {
			t.Fatal(err)
		}
		for unit := range 12 {
			want := size.cents*size.dim + size.dim
			if unit%4 == 3 {
				want = size.cents * size.dim
			}
			n, err := m.Step()
			if n != want || err != api.OK {
				t.Errorf("%d cents of length %d, unit %d: got %d, error %d, want %d", size.cents, size.dim, unit, n, err, want)
			}
			if n > (size.cents+1)*size.dim {
				t.Errorf("%d cents of length %d, unit %d: %d operations", size.cents, size.dim, unit, n)
			}
		}
	}
}

// TestState: P12.1, behind the last unit ErrState, however often it is asked, and nothing is changed by it.
func TestState(t *testing.T) {
	b := begun(t, ones(4, 5, 6), ones(0, 9), 2)
	b.live(t, "all units")
	for range 100 {
		if n, err := b.m.Step(); n != 0 || err != api.ErrState {
			t.Fatalf("got %d, error %d", n, err)
		}
	}
	b.want(t, "asked for more")
}

// TestUnits: P12.1, Units at, just below and just above the bounds of points and rounds.
func TestUnits(t *testing.T) {
	rooms := []int{0, 1, 2, 100, api.MaxRoom - 1, api.MaxRoom}
	wrongRooms := []int{-1, -2, -api.MaxRoom, api.MaxRoom + 1, 2 * api.MaxRoom, math.MaxInt32, math.MinInt32, 1 << 32, 1<<32 + 1, math.MaxInt, math.MinInt}
	rounds := []int{1, 2, 63, api.MaxIters}
	for _, points := range slices.Concat(rooms, wrongRooms) {
		for _, iters := range slices.Concat(rounds, oddIters()) {
			want := 0
			if slices.Contains(rooms, points) && slices.Contains(rounds, iters) {
				for range iters {
					want += points + 1
				}
			}
			if got := means.Units(points, iters); got != want {
				t.Errorf("Units(%d, %d): got %d, want %d", points, iters, got, want)
			}
		}
	}
	if got := means.Units(api.MaxRoom, api.MaxIters); got != 1073741888 {
		t.Errorf("the most Units: %d", got)
	}
}

// TestUnitsStepped: P12.1, Step can be called as many times as Units tells, which Left counts down.
func TestUnitsStepped(t *testing.T) {
	for _, points := range []int{0, 1, 2, 5, 100} {
		for _, iters := range []int{1, 2, 3, 63, api.MaxIters} {
			m, err := means.New(ones(make([]int32, points)...), ones(0, 1), iters)
			if err != api.OK {
				t.Fatal(err)
			}
			steps := 0
			for m.Left() == means.Units(points, iters)-steps && m.Done() == (m.Left() == 0) {
				if _, err := m.Step(); err != api.OK {
					break
				}
				steps++
			}
			if steps != means.Units(points, iters) || !m.Done() {
				t.Errorf("%d points, %d rounds: %d steps, Left %d, Done %v", points, iters, steps, m.Left(), m.Done())
			}
		}
	}
}

// TestNearest: P12.2, an assignment goes to the nearest cent, of several as near to the first, by the whole distance.
func TestNearest(t *testing.T) {
	tests := []struct {
		what   string
		points [][]int32
		cents  [][]int32
		want   []int
	}{
		{"one cent", ones(-5, 0, 5), ones(9), []int{0, 0, 0}},
		{"just between two", ones(5), ones(0, 10), []int{0}},
		{"just between two, turned round", ones(5), ones(10, 0), []int{0}},
		{"beside the middle", ones(4, 5, 6), ones(10, 0), []int{1, 0, 0}},
		{"below 0", ones(-4, -5, -6), ones(-10, 0), []int{1, 0, 0}},
		{"on both sides of 0", ones(0, -1, 1), ones(-1, 1), []int{0, 0, 1}},
		{"the same cent twice", ones(7, 3, 0), ones(3, 7, 3, 7), []int{1, 0, 0}},
		{"the last one", ones(99), ones(0, 10, 20, 30), []int{3}},
		{"a middle one, of several as near", ones(10), ones(0, 9, 11, 9), []int{1}},
		{"by all numbers", [][]int32{{0, 0}, {3, 3}}, [][]int32{{0, 6}, {5, 0}, {4, 4}}, []int{1, 2}},
		{"by the sum of the squares", [][]int32{{0, 0}}, [][]int32{{4, 4}, {0, 6}, {5, 2}}, []int{2}},
		{"as near by other numbers", [][]int32{{0, 0}}, [][]int32{{9, 9}, {3, 4}, {5, 0}, {0, -5}}, []int{1}},
		{"the farthest of all", ones(wide, -wide), ones(-wide, wide), []int{1, 0}},
		{"the farthest of all alone", ones(wide, -wide), ones(-wide), []int{0, 0}},
	}
	for _, test := range tests {
		b := begun(t, test.points, test.cents, 1)
		for n, want := range test.want {
			b.step(t)
			if got := b.m.Of(n); got != want {
				t.Errorf("%s: point %d is of %d, want %d", test.what, n, got, want)
			}
			b.want(t, test.what)
		}
	}
}

// TestMove: P12.2, a move makes each cent that has points their mean, of two as near the greater one; one without stays.
func TestMove(t *testing.T) {
	tests := []struct {
		what   string
		points [][]int32
		cents  [][]int32
		want   [][]int32
	}{
		{"one point", ones(7), ones(0), ones(7)},
		{"a half", ones(3, 4), ones(0), ones(4)},
		{"a half below 0", ones(-3, -4), ones(0), ones(-3)},
		{"a half about 0", ones(0, -1), ones(5), ones(0)},
		{"a half above 0", ones(0, 1), ones(5), ones(1)},
		{"thirds", ones(0, 0, 1), ones(5), ones(0)},
		{"two thirds", ones(0, 1, 1), ones(5), ones(1)},
		{"thirds below 0", ones(0, 0, -1), ones(5), ones(0)},
		{"two thirds below 0", ones(0, -1, -1), ones(5), ones(-1)},
		{"quarters", ones(1, 1, 1, 0, -1, -1, -1, -2), ones(0), ones(0)},
		{"number by number", [][]int32{{1, -1, 100}, {2, -2, 200}, {4, -4, 3}}, [][]int32{{0, 0, 0}}, [][]int32{{2, -2, 101}}},
		{"one without points", ones(9, 10), ones(10, -100), ones(10, -100)},
		{"the first without points", ones(9, 10), ones(-100, 9), ones(-100, 10)},
		{"all but a middle one", ones(1, 2, 4), ones(-99, 2, 77), ones(-99, 2, 77)},
		{"of two the same, the second has none", ones(1, 5), ones(3, 3), ones(3, 3)},
		{"of two the same, the first moves", ones(1, 2), ones(9, 9), ones(2, 9)},
		{"each has some", ones(0, 2, 10, 14), ones(3, 9), ones(1, 12)},
		{"the utmost", ones(wide, wide, wide), ones(-wide), ones(wide)},
		{"the least", ones(-wide, -wide), ones(wide), ones(-wide)},
		{"the utmost and the least", ones(wide, -wide), ones(5), ones(0)},
		{"a half below the utmost", ones(wide, wide-1), ones(0), ones(wide)},
		{"a half above the least", ones(-wide, -wide+1), ones(0), ones(-wide + 1)},
	}
	for _, test := range tests {
		got, err := means.Run(test.points, test.cents, 1)
		if err != api.OK {
			t.Errorf("%s: error %d", test.what, err)
		}
		wantCents(t, test.what, got, test.want)
		begun(t, test.points, test.cents, 3).live(t, test.what)
	}
}

// TestStill: P12.2, cents stand still till all points of a round were assigned, in each round.
func TestStill(t *testing.T) {
	draw := draws(6)
	points := drawn(draw, 30, 3, 50)
	m, err := means.New(points, drawn(draw, 4, 3, 50), 5)
	if err != api.OK {
		t.Fatal(err)
	}
	moved := 0
	for round := range 5 {
		still := m.Cents()
		for n := range points {
			m.Step()
			wantCents(t, fmt.Sprintf("round %d, point %d", round, n), m.Cents(), still)
			if m.Round() != round {
				t.Errorf("round %d, point %d: Round %d", round, n, m.Round())
			}
		}
		m.Step()
		if m.Round() != round+1 {
			t.Errorf("behind round %d: Round %d", round, m.Round())
		}
		if !sameAll(m.Cents(), still) {
			moved++
		}
	}
	if moved == 0 {
		t.Error("no round moved a cent")
	}
}

// TestRoundsAnew: P12.2, a round counts its own points alone: nothing of the rounds ahead is in its means.
func TestRoundsAnew(t *testing.T) {
	b := begun(t, ones(0, 1, 10, 11, 100), ones(0, 1, 2), 6)
	b.live(t, "anew")
	b = begun(t, ones(0, 4, 8, 9), ones(-20, 8), 4)
	b.live(t, "a cent that gets points later")
}

// TestCost: P12.2, the sum of each point's distance to its nearest cent.
func TestCost(t *testing.T) {
	tests := []struct {
		points, cents [][]int32
		want          int64
	}{
		{ones(0, 1, 10, 11), ones(0, 1), 0 + 0 + 81 + 100},
		{ones(0, 1, 10, 11), ones(0, 7), 0 + 1 + 9 + 16},
		{ones(0, 1, 10, 11), ones(1, 11), 1 + 0 + 1 + 0},
		{ones(5), ones(5), 0},
		{ones(5, 5, 5), ones(4), 3},
		{[][]int32{{1, 2}}, [][]int32{{4, -2}}, 25},
		{ones(wide), ones(-wide), 1 << 36},
		{[][]int32{filled(api.MaxDim, wide)}, [][]int32{filled(api.MaxDim, -wide)}, 1 << 46},
	}
	for _, test := range tests {
		if got, err := means.Cost(test.points, test.cents); got != test.want || err != api.OK {
			t.Errorf("Cost of %d points: got %d, error %d, want %d", len(test.points), got, err, test.want)
		}
	}
	draw := draws(7)
	for range 200 {
		dim := 1 + draw(5)
		points, cents := drawn(draw, draw(30), dim, wide), drawn(draw, 1+draw(6), dim, wide)
		if got, err := means.Cost(points, cents); got != costOf(points, cents) || err != api.OK {
			t.Errorf("Cost of %v, %v: got %d, error %d, want %d", points, cents, got, err, costOf(points, cents))
		}
	}
}

// wantUnmade holds that m answers as one that nobody made.
func wantUnmade(t *testing.T, what string, m *means.Means) {
	t.Helper()
	if n, err := m.Step(); n != 0 || err != api.ErrNil {
		t.Errorf("%s: Step tells %d, error %d", what, n, err)
	}
	if m.Done() || m.Left() != 0 || len(m.Cents()) != 0 || m.Round() != 0 {
		t.Errorf("%s: Done %v, Left %d, Cents %v, Round %d", what, m.Done(), m.Left(), m.Cents(), m.Round())
	}
	for _, n := range append(noPoints(0), -1, 0, 1) {
		if got := m.Of(n); got != -1 {
			t.Errorf("%s: Of(%d) %d", what, n, got)
		}
	}
}

// TestUnmade: rule 7, of a nil pointer, and of means that New did not answer, which no call makes.
func TestUnmade(t *testing.T) {
	refused, err := means.New(nil, nil, 1)
	if err != api.ErrArg {
		t.Errorf("New of nothing: error %d", err)
	}
	unmade := new(means.Means)
	for range 3 {
		wantUnmade(t, "nil", nil)
		wantUnmade(t, "refused by New", refused)
		wantUnmade(t, "of nothing", unmade)
		wantUnmade(t, "of nothing, anew", &means.Means{})
	}
}
