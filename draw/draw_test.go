package draw_test

import (
	"math"
	"slices"
	"testing"

	"wayfinder/api"
	"wayfinder/draw"
)

// TestExample: the chapter's row.
func TestExample(t *testing.T) {
	wantPicks(t, []uint64{2}, 4, 4, []int{2, 3, 0, 1})
	wantOrder(t, []uint64{2}, 4, []int{2, 3, 0, 1})
}

// TestDrawNone: P11.1, Draw is 0 of an empty list and of i below 0.
func TestDrawNone(t *testing.T) {
	for _, i := range []int{0, 1, 2, -1, math.MaxInt, math.MinInt} {
		for _, none := range [][]uint64{nil, {}} {
			if got := draw.Draw(none, i); got != 0 {
				t.Errorf("Draw of none at %d: got %d", i, got)
			}
		}
	}
	for _, l := range [][]uint64{{4}, {4, 5}, {most, most, most}} {
		for _, i := range []int{-1, -2, -3, -4, -6, math.MinInt32, math.MinInt + 1, math.MinInt} {
			if got := draw.Draw(l, i); got != 0 {
				t.Errorf("Draw of %v at %d: got %d", l, i, got)
			}
		}
	}
}

// TestDraw: P11.1, a list is gone round: within it, just below and at its length, far above, and at the greatest int.
func TestDraw(t *testing.T) {
	tests := []struct {
		l    []uint64
		i    int
		want uint64
	}{
		{[]uint64{7}, 0, 7},
		{[]uint64{7}, 1, 7},
		{[]uint64{7}, math.MaxInt, 7},
		{[]uint64{4, 5}, 0, 4},
		{[]uint64{4, 5}, 1, 5},
		{[]uint64{4, 5}, 2, 4},
		{[]uint64{4, 5}, 3, 5},
		{[]uint64{4, 5}, math.MaxInt, 5},
		{[]uint64{4, 5}, math.MaxInt - 1, 4},
		{[]uint64{4, 5, 6}, 2, 6},
		{[]uint64{4, 5, 6}, 3, 4},
		{[]uint64{4, 5, 6}, 4, 5},
		{[]uint64{4, 5, 6}, 1 << 40, 5},
		{[]uint64{4, 5, 6}, math.MaxInt, 5},
		{[]uint64{4, 5, 6, 7, 8}, math.MaxInt, 6},
		{[]uint64{most, 0, most - 1}, 0, most},
		{[]uint64{most, 0, most - 1}, 1, 0},
		{[]uint64{most, 0, most - 1}, 5, most - 1},
	}
	for _, test := range tests {
		if got := draw.Draw(test.l, test.i); got != test.want {
			t.Errorf("Draw of %v at %d: got %d, want %d", test.l, test.i, got, test.want)
		}
	}
	next := numbers(1)
	for length := 1; length < 40; length++ {
		l := drawn(next, length)
		for i, round := 0, slices.Repeat(l, 4); i < len(round); i++ {
			if got := draw.Draw(l, i); got != round[i] {
				t.Errorf("Draw of %v at %d: got %d", l, i, got)
			}
		}
	}
}

// TestPicksArg: P11.1, n goes from 1 to MaxRoom, k from 0 to MaxPicks; beside the error there are no picks.
func TestPicksArg(t *testing.T) {
	odd := []int{-1, -2, -4096, math.MinInt32, math.MaxInt32, math.MinInt, math.MinInt + 1, math.MaxInt, 1 << 32, 1<<32 + 1, -1 << 32}
	goodN, wrongN := []int{1, 2, api.MaxRoom - 1, api.MaxRoom}, append([]int{0, api.MaxRoom + 1, 2 * api.MaxRoom, -api.MaxRoom}, odd...)
	goodK, wrongK := []int{0, 1, 2, api.MaxPicks - 1, api.MaxPicks}, append([]int{api.MaxPicks + 1, 2 * api.MaxPicks, api.MaxRoom, api.MaxRoom + 1}, odd...)
	for _, draws := range [][]uint64{nil, {3}, {most, 0}} {
		for _, n := range slices.Concat(goodN, wrongN) {
			for _, k := range slices.Concat(goodK, wrongK) {
				want := api.OK
				if slices.Contains(wrongN, n) || slices.Contains(wrongK, k) {
					want = api.ErrArg
				}
				l, err := draw.Picks(draws, n, k)
				if err != want || err == api.OK && len(l) != k || err != api.OK && l != nil {
					t.Errorf("Picks of %v, of %d, %d: got %d picks, error %d, want error %d", draws, n, k, len(l), err, want)
				}
			}
		}
	}
}

// TestPicks: P11.1, rows that are written out: no draws, fewer than picks, as many, more, and great ones.
func TestPicks(t *testing.T) {
	tests := []struct {
		draws []uint64
		n, k  int
		want  []int
	}{
		{nil, 1, 0, nil},
		{nil, 1, 1, []int{0}},
		{nil, 1, 5, []int{0, 0, 0, 0, 0}},
		{[]uint64{most}, 1, 3, []int{0, 0, 0}},
		{nil, 5, 5, []int{0, 1, 2, 3, 4}},
		{[]uint64{}, 5, 7, []int{0, 1, 2, 3, 4, 0, 1}},
		{[]uint64{0, 0}, 3, 3, []int{0, 1, 2}},
		{[]uint64{1}, 2, 2, []int{1, 0}},
		{[]uint64{2}, 2, 2, []int{0, 1}},
		{[]uint64{1}, 4, 4, []int{1, 2, 3, 0}},
		{[]uint64{2}, 4, 6, []int{2, 3, 0, 1, 2, 3}},
		{[]uint64{3, 0}, 4, 4, []int{3, 1, 0, 2}},
		{[]uint64{3, 0, 0}, 4, 4, []int{3, 1, 2, 0}},
		{[]uint64{3, 0, 1}, 4, 4, []int{3, 1, 0, 2}},
		{[]uint64{3, 0, 1, 9}, 4, 4, []int{3, 1, 0, 2}},
		{[]uint64{3, 0, 1, 9, 2, 2}, 4, 9, []int{3, 1, 0, 2, 3, 1, 0, 2, 3}},
		{[]uint64{4, 4, 4}, 5, 3, []int{4, 1, 3}},
		{[]uint64{most}, 4, 4, []int{3, 1, 0, 2}},
		{[]uint64{1 << 63}, 3, 3, []int{2, 1, 0}},
		{[]uint64{1<<63 - 1, 1 << 63, 1<<63 + 1, most - 1, most}, 6, 6, []int{1, 4, 3, 5, 2, 0}},
		{[]uint64{api.MaxRoom - 1}, api.MaxRoom, 4, []int{api.MaxRoom - 1, 1, 3, 5}},
		{[]uint64{api.MaxRoom - 1, api.MaxRoom - 2, api.MaxRoom - 3, 0}, api.MaxRoom, 4, []int{api.MaxRoom - 1, 0, 1, 3}},
		{[]uint64{api.MaxRoom}, api.MaxRoom, 3, []int{0, 2, 4}},
		{[]uint64{most}, api.MaxRoom, 1, []int{api.MaxRoom - 1}},
	}
	for _, test := range tests {
		wantPicks(t, test.draws, test.n, test.k, test.want)
	}
}

// TestPicksByHand: P11.1, drawn draws, fewer, as many and more than picks, against the row turned by hand; k below, at and above n, more than once round.
func TestPicksByHand(t *testing.T) {
	next := numbers(2)
	for n := 1; n <= 12; n++ {
		for k := range 4*n + 3 {
			for _, length := range []int{0, 1, 2, n - 1, n, n + 1, k, 3 * n} {
				draws := drawn(next, length)
				wantPicks(t, draws, n, k, picksOf(draws, n, k))
			}
		}
	}
	for range 300 {
		n, k := 1+int(next()%6000), int(next()%(api.MaxPicks+1))
		draws := drawn(next, int(next()%5000))
		wantPicks(t, draws, n, k, picksOf(draws, n, k))
	}
}

// TestPicksRound: P11.1, from n on they come again: pick i is pick i - n, up to the greatest k.
func TestPicksRound(t *testing.T) {
	next := numbers(3)
	for _, n := range []int{1, 2, 3, 7, 1000, 2047, 2048, 2049, 4094, api.MaxPicks - 1, api.MaxPicks, api.MaxPicks + 1} {
		draws := drawn(next, 100)
		first := picksOf(draws, n, n)
		for _, k := range []int{n - 1, n, n + 1, 2*n - 1, 2 * n, 2*n + 1, 3 * n, api.MaxPicks - 1, api.MaxPicks} {
			if k <= api.MaxPicks {
				wantPicks(t, draws, n, k, slices.Repeat(first, k/n+1)[:k])
			}
		}
	}
}

// TestPicksMaxRoom: P11.1, of the greatest n, the greatest number of picks against a row that is turned whole.
func TestPicksMaxRoom(t *testing.T) {
	next := numbers(4)
	near := make([]uint64, api.MaxPicks)
	for i := range near {
		near[i] = next() % 50
	}
	far := make([]uint64, api.MaxPicks)
	for i := range far {
		far[i] = uint64(api.MaxRoom-i) - 1 - next()%50
	}
	for _, draws := range [][]uint64{nil, near, far, drawn(next, api.MaxPicks), drawn(next, 77)} {
		wantPicks(t, draws, api.MaxRoom, api.MaxPicks, picksOf(draws, api.MaxRoom, api.MaxPicks))
	}
}

// TestOrder: P11.1, n goes from 1 to MaxPicks; else n picks of n.
func TestOrder(t *testing.T) {
	wrong := []int{0, -1, -2, api.MaxPicks + 1, 2 * api.MaxPicks, api.MaxRoom, api.MaxRoom + 1, math.MaxInt32, math.MinInt32, math.MaxInt, math.MinInt, 1 << 32, 1<<32 + 1}
	for _, n := range wrong {
		for _, draws := range [][]uint64{nil, {5, 6}} {
			if l, err := draw.Order(draws, n); l != nil || err != api.ErrArg {
				t.Errorf("Order of %v, of %d: got %d picks, error %d", draws, n, len(l), err)
			}
		}
	}
	next := numbers(5)
	for _, n := range []int{1, 2, 3, 4, 5, 20, 1000, api.MaxPicks - 1, api.MaxPicks} {
		for _, length := range []int{0, 1, 5, n, n + 3} {
			draws := drawn(next, length)
			wantOrder(t, draws, n, picksOf(draws, n, n))
		}
	}
	wantOrder(t, nil, 4, []int{0, 1, 2, 3})
	wantOrder(t, []uint64{most}, 4, []int{3, 1, 0, 2})
}

// TestDistinct: P11.1, of none, of one, and with one that is there twice, negative numbers too.
func TestDistinct(t *testing.T) {
	tests := []struct {
		l    []int
		want bool
	}{
		{nil, true},
		{[]int{}, true},
		{[]int{0}, true},
		{[]int{-1}, true},
		{[]int{math.MinInt}, true},
		{[]int{0, 0}, false},
		{[]int{-1, -1}, false},
		{[]int{1, -1}, true},
		{[]int{0, 1}, true},
		{[]int{1, 0}, true},
		{[]int{5, -3, 5}, false},
		{[]int{-3, 5, -3}, false},
		{[]int{-3, 5, 3}, true},
		{[]int{7, 7, 7}, false},
		{[]int{math.MaxInt, math.MinInt, 0, -1}, true},
		{[]int{math.MaxInt, math.MinInt, 0, math.MinInt}, false},
		{[]int{math.MaxInt, math.MinInt, 0, math.MaxInt}, false},
		{[]int{1, 1 << 32, 1<<32 + 1}, true},
	}
	for _, test := range tests {
		if got := draw.Distinct(test.l); got != test.want {
			t.Errorf("Distinct of %v: got %v", test.l, got)
		}
	}
}

// TestDistinctTwice: P11.1, one that is there twice, at any two places of lists that rise, fall and are mixed.
func TestDistinctTwice(t *testing.T) {
	next := numbers(6)
	for length := 2; length < 30; length++ {
		up := rising(length)
		for i := range up {
			up[i] = 3*i - length
		}
		down := slices.Clone(up)
		slices.Reverse(down)
		mixed := picksOf(drawn(next, length), length, length)
		for i := range mixed {
			mixed[i] = up[mixed[i]]
		}
		for _, l := range [][]int{up, down, mixed} {
			if !draw.Distinct(l) {
				t.Errorf("Distinct of %v: got false", l)
			}
			for i := range l {
				for j := range i {
					twice := slices.Clone(l)
					twice[i] = l[j]
					if draw.Distinct(twice) {
						t.Errorf("Distinct of %v: got true", twice)
					}
				}
			}
		}
	}
}

// TestDistinctMany: P11.1, a great many, with one of them there twice or not.
func TestDistinctMany(t *testing.T) {
	l := make([]int, 300000)
	for i := range l {
		l[i] = (i*7919)%len(l) - 150000
	}
	if !draw.Distinct(l) {
		t.Error("all are distinct: got false")
	}
	l[len(l)-1] = l[0]
	if draw.Distinct(l) {
		t.Error("the last one is the first one: got true")
	}
}

// TestBelow: P11.2, picks are below n and none is below 0; the first n are distinct.
func TestBelow(t *testing.T) {
	next := numbers(7)
	for range 500 {
		n, k := 1+int(next()%50), int(next()%120)
		l, err := draw.Picks(drawn(next, int(next()%60)), n, k)
		if err != api.OK || len(l) != k {
			t.Fatalf("Picks of %d, %d: got %d picks, error %d", n, k, len(l), err)
		}
		there := map[int]int{}
		for i, x := range l {
			if x < 0 || x >= n {
				t.Errorf("pick %d of %d: %d", i, n, x)
			}
			if i < n {
				there[x]++
			}
		}
		if len(there) != min(n, k) || !draw.Distinct(l[:min(n, k)]) {
			t.Errorf("the first picks of %d, %d are not distinct: %v", n, k, l)
		}
		if draw.Distinct(l) != (k <= n) {
			t.Errorf("Distinct of %d picks of %d: got %v", k, n, k > n)
		}
	}
}

// TestFewer: P11.2, fewer picks are the first ones of more.
func TestFewer(t *testing.T) {
	next := numbers(8)
	for _, n := range []int{1, 2, 9, 100, 5000, api.MaxRoom} {
		draws := drawn(next, 30)
		all, err := draw.Picks(draws, n, 250)
		if err != api.OK {
			t.Fatalf("Picks of %d: error %d", n, err)
		}
		for k := range all {
			wantPicks(t, draws, n, k, all[:k])
		}
	}
}

// TestEachRow: P11.2, each row of distinct numbers is picked by some draws, all rows of a small n; so it is by draws that are greater by whole rounds.
func TestEachRow(t *testing.T) {
	for n := 1; n <= 6; n++ {
		for k := range n + 1 {
			rows(n, k, func(row []int) {
				draws := drawsOf(row, n)
				wantPicks(t, draws, n, k, row)
				for i := range draws {
					left := uint64(n - i)
					draws[i] += (most - draws[i]) / left * left
				}
				wantPicks(t, draws, n, k, row)
			})
		}
	}
}

// TestEachDraw: P11.2, other draws, each below what is left, pick another row: of n there are as many as rows.
func TestEachDraw(t *testing.T) {
	for n := 1; n <= 6; n++ {
		there := map[[6]int]int{}
		count := 1
		for left := 2; left <= n; left++ {
			count *= left
		}
		for code := range count {
			var draws []uint64
			for i := range n {
				draws = append(draws, uint64(code%(n-i)))
				code /= n - i
			}
			l, err := draw.Order(draws, n)
			if err != api.OK || len(l) != n {
				t.Fatalf("Order of %v, of %d: got %v, error %d", draws, n, l, err)
			}
			var row [6]int
			copy(row[:], l)
			there[row]++
		}
		if len(there) != count {
			t.Errorf("of %d there are %d rows, want %d", n, len(there), count)
		}
	}
}

// TestGreatRows: P11.2, rows of distinct numbers of a great n, the greatest one that Order takes, and of one that is far above what is picked.
func TestGreatRows(t *testing.T) {
	next := numbers(9)
	for _, n := range []int{100, api.MaxPicks} {
		row := rising(n)
		for i := range row {
			j := i + int(next()%uint64(n-i))
			row[i], row[j] = row[j], row[i]
		}
		wantOrder(t, drawsOf(row, n), n, row)
		slices.Sort(row)
		slices.Reverse(row)
		wantOrder(t, drawsOf(row, n), n, row)
	}
	row := []int{99999, 0, 50000, 99998, 1, 2, 3, 49999}
	wantPicks(t, drawsOf(row, 100000), 100000, len(row), row)
}

// TestAgain: T6, the same arguments are answered the same, whatever was asked between.
func TestAgain(t *testing.T) {
	next := numbers(10)
	draws := drawn(next, 40)
	want := picksOf(draws, 300, 500)
	for range 20 {
		wantPicks(t, draws, 300, 500, want)
		draw.Order(drawn(next, 10), 300)
		draw.Picks(nil, -1, 5)
		draw.Draw(draws, 7)
	}
}

// FuzzPicks holds P11.1 of draws that are made of bytes, eight each, and of any n and k.
func FuzzPicks(f *testing.F) {
	f.Add([]byte{2, 0, 0, 0, 0, 0, 0, 0}, 4, 6)
	f.Add([]byte{}, 0, 1)
	f.Add([]byte("seventeen letters"), 9, 30)
	f.Add([]byte{255, 255, 255, 255, 255, 255, 255, 255}, 700, 4096)
	f.Fuzz(func(t *testing.T, b []byte, n, k int) {
		var draws []uint64
		for part := range slices.Chunk(b, 8) {
			var d uint64
			for _, x := range part {
				d = d<<8 | uint64(x)
			}
			draws = append(draws, d)
		}
		if n < 1 || n > api.MaxRoom || k < 0 || k > api.MaxPicks {
			if l, err := draw.Picks(draws, n, k); l != nil || err != api.ErrArg {
				t.Errorf("Picks of %d, %d: got %d picks, error %d", n, k, len(l), err)
			}
			return
		}
		wantPicks(t, draws, n, k, picksOf(draws, n, k))
	})
}
