package draw_test

import (
	"math"
	"slices"
	"testing"

	"wayfinder/api"
	"wayfinder/draw"
)

// most is the greatest draw.
const most = math.MaxUint64

// numbers answers a function that tells numbers of 64 bits, always the same ones.
func numbers(seed uint64) func() uint64 {
	return func() uint64 {
		seed = seed*6364136223846793005 + 1442695040888963407
		x := (seed ^ seed>>31) * 0x9e3779b97f4a7c15
		return x ^ x>>29
	}
}

// drawn answers so many draws, small ones, great ones and those at the edges.
func drawn(next func() uint64, length int) []uint64 {
	l := make([]uint64, length)
	for i := range l {
		switch next() % 4 {
		case 0:
			l[i] = next() % 10
		case 1:
			l[i] = []uint64{0, 1, math.MaxInt64, 1 << 63, 1<<63 + 1, most - 1, most}[next()%7]
		default:
			l[i] = next()
		}
	}
	return l
}

// picksOf answers the first k picks of n as the chapter tells them, by a row that is turned whole.
func picksOf(draws []uint64, n, k int) []int {
	row := rising(n)
	for i := range min(n, k) {
		var d uint64
		if len(draws) > 0 {
			d = draws[i%len(draws)]
		}
		j := i + int(d%uint64(n-i))
		row[i], row[j] = row[j], row[i]
	}
	picks := slices.Clone(row[:min(n, k)])
	for i := n; i < k; i++ {
		picks = append(picks, picks[i-n])
	}
	return picks
}

// drawsOf answers draws that pick just these distinct numbers of n, each the least that does.
func drawsOf(picks []int, n int) []uint64 {
	row := rising(n)
	var draws []uint64
	for i, x := range picks {
		j := slices.Index(row, x)
		draws = append(draws, uint64(j-i))
		row[i], row[j] = row[j], row[i]
	}
	return draws
}

// rising answers the numbers from 0 to n - 1.
func rising(n int) []int {
	l := make([]int, n)
	for i := range l {
		l[i] = i
	}
	return l
}

// rows hands each row of k distinct numbers below n to do.
func rows(n, k int, do func(row []int)) {
	var grow func(row []int)
	grow = func(row []int) {
		if len(row) == k {
			do(row)
			return
		}
		for x := range n {
			if !slices.Contains(row, x) {
				grow(append(slices.Clone(row), x))
			}
		}
	}
	grow(nil)
}

// wantPicks holds Picks' answer against the picks that should be.
func wantPicks(t *testing.T, draws []uint64, n, k int, want []int) {
	t.Helper()
	got, err := draw.Picks(draws, n, k)
	if err != api.OK || !slices.Equal(got, want) {
		t.Errorf("Picks of draws %v, of %d, %d: got %v, error %d, want %v", draws[:min(9, len(draws))], n, k, got[:min(20, len(got))], err, want[:min(20, len(want))])
	}
}

// wantOrder holds Order's answer against the picks that should be.
func wantOrder(t *testing.T, draws []uint64, n int, want []int) {
	t.Helper()
	got, err := draw.Order(draws, n)
	if err != api.OK || !slices.Equal(got, want) {
		t.Errorf("Order of draws %v, of %d: got %v, error %d, want %v", draws[:min(9, len(draws))], n, got[:min(20, len(got))], err, want[:min(20, len(want))])
	}
}
