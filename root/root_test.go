package root_test

import (
	"fmt"
	"math"
	"math/big"
	"testing"

	"wayfinder/api"
	"wayfinder/root"
)

// utmost is the chapter's 2^60.
const utmost = 1 << 60

// words are the numbers without a sign at which a bit, a root or a product turns.
func words() []uint64 {
	all := []uint64{0, 1, 2, 3, 24, 25, 26, 0x0123456789abcdef, 0xfedcba9876543210}
	for bit := range 64 {
		one := uint64(1) << bit
		all = append(all, one-1, one, one+1, -one, -one-1, -one+1)
	}
	for _, r := range []uint64{3, 5, 10, 255, 256, 65535, 65536, 3037000499, 3037000500, 1<<32 - 2, 1<<32 - 1} {
		all = append(all, r, r*r-1, r*r, r*r+1)
	}
	return all
}

// ints are the numbers with a sign at which something turns.
func ints() []int64 {
	all := []int64{0, 7, -7, 10, -10, math.MinInt64, math.MinInt64 + 1, math.MaxInt64, math.MaxInt64 - 1}
	for bit := range 63 {
		one := int64(1) << bit
		all = append(all, one-1, one, one+1, -one+1, -one, -one-1)
	}
	return all
}

func large(n int64) *big.Int   { return big.NewInt(n) }
func largeU(n uint64) *big.Int { return new(big.Int).SetUint64(n) }

func wantU(t *testing.T, what string, got uint64, err api.Errno, want *big.Int) {
	t.Helper()
	if !want.IsUint64() {
		if got != 0 || err != api.ErrRange {
			t.Errorf("%s: got %d, error %d, want 0, ErrRange", what, got, err)
		}
		return
	}
	if got != want.Uint64() || err != api.OK {
		t.Errorf("%s: got %d, error %d, want %d", what, got, err, want)
	}
}

func wantErr(t *testing.T, what string, got int64, err, want api.Errno) {
	t.Helper()
	if got != 0 || err != want {
		t.Errorf("%s: got %d, error %d, want 0, error %d", what, got, err, want)
	}
}

func wantInt(t *testing.T, what string, got int64, err api.Errno, want int64) {
	t.Helper()
	if got != want || err != api.OK {
		t.Errorf("%s: got %d, error %d, want %d", what, got, err, want)
	}
}

// holdsRoots holds both roots of n against the words of the document, without a width.
func holdsRoots(t *testing.T, n uint64) {
	t.Helper()
	square := func(r uint64) *big.Int { return new(big.Int).Mul(largeU(r), largeU(r)) }
	below, above := root.Floor(n), root.Ceil(n)
	if square(below).Cmp(largeU(n)) > 0 || square(below+1).Cmp(largeU(n)) <= 0 {
		t.Errorf("Floor(%d): got %d", n, below)
	}
	if square(above).Cmp(largeU(n)) < 0 || above > 0 && square(above-1).Cmp(largeU(n)) >= 0 {
		t.Errorf("Ceil(%d): got %d", n, above)
	}
	if above != below && above != below+1 {
		t.Errorf("of %d: Floor %d, Ceil %d", n, below, above)
	}
}

// P2.1, P2.2: the chapter's examples.
func TestExamples(t *testing.T) {
	if root.Floor(24) != 4 || root.Ceil(24) != 5 || root.Floor(25) != 5 || root.Ceil(25) != 5 {
		t.Error("roots of 24, 25")
	}
	got, err := root.Div(-7, 2)
	wantInt(t, "Div(-7, 2)", got, err, -4)
	got, err = root.Mean(-7, 2)
	wantInt(t, "Mean(-7, 2)", got, err, -3)
	got, err = root.Mean(7, 2)
	wantInt(t, "Mean(7, 2)", got, err, 4)
}

// P2.1: roots that are written out, of which none is worked out by the test.
func TestRootsWrittenOut(t *testing.T) {
	tests := []struct{ n, below, above uint64 }{
		{0, 0, 0}, {1, 1, 1}, {2, 1, 2}, {3, 1, 2}, {4, 2, 2}, {5, 2, 3}, {8, 2, 3}, {9, 3, 3}, {10, 3, 4},
		{1<<32 - 1, 1<<16 - 1, 1 << 16},
		{1 << 32, 1 << 16, 1 << 16},
		{1<<32 + 1, 1 << 16, 1<<16 + 1},
		{1<<46 - 1, 1<<23 - 1, 1 << 23},
		{1 << 46, 1 << 23, 1 << 23},
		{1<<62 - 1, 1<<31 - 1, 1 << 31},
		{1 << 62, 1 << 31, 1 << 31},
		{1 << 63, 3037000499, 3037000500},
		{18446744065119617024, 1<<32 - 2, 1<<32 - 1},
		{18446744065119617025, 1<<32 - 1, 1<<32 - 1},
		{18446744065119617026, 1<<32 - 1, 1 << 32},
		{math.MaxUint64 - 1, 1<<32 - 1, 1 << 32},
		{math.MaxUint64, 1<<32 - 1, 1 << 32},
	}
	for _, test := range tests {
		if got := root.Floor(test.n); got != test.below {
			t.Errorf("Floor(%d): got %d, want %d", test.n, got, test.below)
		}
		if got := root.Ceil(test.n); got != test.above {
			t.Errorf("Ceil(%d): got %d, want %d", test.n, got, test.above)
		}
	}
}

// P2.1, P2.3: all small numbers, one after another.
func TestSmallRoots(t *testing.T) {
	below := uint64(0)
	for n := range uint64(100000) {
		if (below+1)*(below+1) == n {
			below++
		}
		above := below
		if below*below != n {
			above++
		}
		if root.Floor(n) != below || root.Ceil(n) != above {
			t.Fatalf("of %d: Floor %d, Ceil %d", n, root.Floor(n), root.Ceil(n))
		}
	}
}

// P2.1, P2.3: roots where bits turn, and at and about squares of all sizes.
func TestRoots(t *testing.T) {
	for _, n := range words() {
		holdsRoots(t, n)
		r := n >> 32
		holdsRoots(t, r*r)
		holdsRoots(t, r*r-1)
		holdsRoots(t, r*r+1)
	}
	for r := uint64(1); r < 1<<32; r = r*3/2 + 1 {
		if root.Floor(r*r) != r || root.Ceil(r*r) != r {
			t.Errorf("roots of the square of %d", r)
		}
		if root.Floor(r*r-1) != r-1 || root.Ceil(r*r+1) != r+1 {
			t.Errorf("roots about the square of %d", r)
		}
	}
}

// P2.1: sums and products at 2^64 - 1, and just above.
func TestUtmostWords(t *testing.T) {
	const top = math.MaxUint64
	tests := []struct {
		name string
		call func(a, b uint64) (uint64, api.Errno)
		a, b uint64
		want uint64
		err  api.Errno
	}{
		{"Sum", root.Sum, top, 0, top, api.OK},
		{"Sum", root.Sum, 0, top, top, api.OK},
		{"Sum", root.Sum, top - 1, 1, top, api.OK},
		{"Sum", root.Sum, 1 << 63, 1<<63 - 1, top, api.OK},
		{"Sum", root.Sum, top, 1, 0, api.ErrRange},
		{"Sum", root.Sum, 1, top, 0, api.ErrRange},
		{"Sum", root.Sum, 1 << 63, 1 << 63, 0, api.ErrRange},
		{"Sum", root.Sum, top, top, 0, api.ErrRange},
		{"Mul", root.Mul, top, 1, top, api.OK},
		{"Mul", root.Mul, 1, top, top, api.OK},
		{"Mul", root.Mul, top, 0, 0, api.OK},
		{"Mul", root.Mul, 0, top, 0, api.OK},
		{"Mul", root.Mul, 1<<32 - 1, 1<<32 + 1, top, api.OK},
		{"Mul", root.Mul, 6148914691236517205, 3, top, api.OK},
		{"Mul", root.Mul, 6148914691236517206, 3, 0, api.ErrRange},
		{"Mul", root.Mul, 1 << 32, 1 << 32, 0, api.ErrRange},
		{"Mul", root.Mul, 1 << 63, 2, 0, api.ErrRange},
		{"Mul", root.Mul, 2, 1 << 63, 0, api.ErrRange},
		{"Mul", root.Mul, 1 << 40, 1 << 30, 0, api.ErrRange},
		{"Mul", root.Mul, top, top, 0, api.ErrRange},
	}
	for _, test := range tests {
		if got, err := test.call(test.a, test.b); got != test.want || err != test.err {
			t.Errorf("%s(%d, %d): got %d, error %d", test.name, test.a, test.b, got, err)
		}
	}
}

// P2.1: squares at the greatest root that has one, and just above.
func TestUtmostSquares(t *testing.T) {
	tests := []struct {
		r, want uint64
		err     api.Errno
	}{
		{0, 0, api.OK}, {1, 1, api.OK}, {2, 4, api.OK}, {12345, 152399025, api.OK},
		{1<<32 - 1, 18446744065119617025, api.OK},
		{1 << 32, 0, api.ErrRange},
		{1<<32 + 1, 0, api.ErrRange},
		{1 << 63, 0, api.ErrRange},
		{math.MaxUint64, 0, api.ErrRange},
	}
	for _, test := range tests {
		if got, err := root.Square(test.r); got != test.want || err != test.err {
			t.Errorf("Square(%d): got %d, error %d", test.r, got, err)
		}
	}
}

// P2.1: sums, products and squares of all that turns, against numbers without a width.
func TestWords(t *testing.T) {
	for _, a := range words() {
		square, err := root.Square(a)
		wantU(t, fmt.Sprintf("Square(%d)", a), square, err, new(big.Int).Mul(largeU(a), largeU(a)))
		for _, b := range words() {
			sum, err := root.Sum(a, b)
			wantU(t, fmt.Sprintf("Sum(%d, %d)", a, b), sum, err, new(big.Int).Add(largeU(a), largeU(b)))
			product, err := root.Mul(a, b)
			wantU(t, fmt.Sprintf("Mul(%d, %d)", a, b), product, err, new(big.Int).Mul(largeU(a), largeU(b)))
		}
	}
}

// holdsDiv holds a quotient against the document's words: q times b is not above a, one more is.
func holdsDiv(t *testing.T, a, b int64) {
	t.Helper()
	q, err := root.Div(a, b)
	if b < 1 {
		wantErr(t, fmt.Sprintf("Div(%d, %d)", a, b), q, err, api.ErrArg)
		return
	}
	at := new(big.Int).Mul(large(q), large(b))
	next := new(big.Int).Add(at, large(b))
	if err != api.OK || at.Cmp(large(a)) > 0 || next.Cmp(large(a)) <= 0 {
		t.Errorf("Div(%d, %d): got %d, error %d", a, b, q, err)
	}
}

// P2.2: quotients that are written out: below 0, and of the least and the greatest.
func TestDivWrittenOut(t *testing.T) {
	const least, most = math.MinInt64, math.MaxInt64
	tests := []struct{ a, b, want int64 }{
		{0, 1, 0}, {0, 5, 0}, {7, 2, 3}, {8, 2, 4}, {-8, 2, -4}, {-9, 2, -5}, {-1, 2, -1}, {1, 2, 0},
		{-1, most, -1}, {1, most, 0}, {-6, 3, -2}, {-5, 3, -2}, {-4, 3, -2}, {-3, 3, -1},
		{least, 1, least}, {least, 2, -1 << 62}, {least, 3, -3074457345618258603},
		{least, most, -2}, {least + 1, most, -1}, {least + 2, most, -1}, {least, most - 1, -2},
		{most, 1, most}, {most, 2, 1<<62 - 1}, {most, most, 1}, {most - 1, most, 0}, {most, most - 1, 1},
	}
	for _, test := range tests {
		got, err := root.Div(test.a, test.b)
		wantInt(t, fmt.Sprintf("Div(%d, %d)", test.a, test.b), got, err, test.want)
	}
}

// P2.2: quotients of all that turns, and of b of 0 and below.
func TestDiv(t *testing.T) {
	for _, a := range ints() {
		for _, b := range ints() {
			holdsDiv(t, a, b)
		}
	}
	for a := int64(-60); a <= 60; a++ {
		for b := int64(-3); b <= 25; b++ {
			holdsDiv(t, a, b)
		}
	}
}

// meanWanted tells which error a mean has, by the order of the document's sentence.
func meanWanted(sum, n int64) api.Errno {
	switch {
	case n < 1:
		return api.ErrArg
	case n > utmost, sum < -utmost, sum > utmost:
		return api.ErrRange
	}
	return api.OK
}

// holdsMean holds a mean against the document's words: above sum less half n by
// nothing or less than n, so that it is the nearest, and of two the greater one.
func holdsMean(t *testing.T, sum, n int64) {
	t.Helper()
	what := fmt.Sprintf("Mean(%d, %d)", sum, n)
	got, err := root.Mean(sum, n)
	if want := meanWanted(sum, n); want != api.OK {
		wantErr(t, what, got, err, want)
		return
	}
	// Twice the mean's distance from sum by n, times n.
	off := new(big.Int).Mul(large(got), large(n))
	off.Sub(off, large(sum)).Lsh(off, 1)
	if err != api.OK || off.Cmp(large(-n)) <= 0 || off.Cmp(large(n)) > 0 {
		t.Errorf("%s: got %d, error %d", what, got, err)
	}
}

// P2.2: means that are written out: halves on both sides of 0, and the utmost ones.
func TestMeanWrittenOut(t *testing.T) {
	tests := []struct{ sum, n, want int64 }{
		{0, 1, 0}, {0, 7, 0}, {5, 1, 5}, {-5, 1, -5},
		{1, 2, 1}, {-1, 2, 0}, {3, 2, 2}, {-3, 2, -1}, {5, 2, 3}, {-5, 2, -2},
		{1, 3, 0}, {2, 3, 1}, {-1, 3, 0}, {-2, 3, -1}, {4, 3, 1}, {5, 3, 2}, {-4, 3, -1}, {-5, 3, -2},
		{2, 4, 1}, {-2, 4, 0}, {1, 4, 0}, {3, 4, 1}, {-3, 4, -1}, {6, 4, 2}, {-6, 4, -1},
		{utmost, 1, utmost}, {-utmost, 1, -utmost}, {utmost - 1, 1, utmost - 1},
		{utmost, 2, utmost / 2}, {-utmost, 2, -utmost / 2},
		{utmost, utmost, 1}, {-utmost, utmost, -1},
		{utmost / 2, utmost, 1}, {-utmost / 2, utmost, 0},
		{utmost/2 - 1, utmost, 0}, {-utmost/2 - 1, utmost, -1},
		{utmost, utmost - 1, 1}, {-utmost, utmost - 1, -1},
		{1, utmost, 0}, {-1, utmost, 0},
	}
	for _, test := range tests {
		got, err := root.Mean(test.sum, test.n)
		wantInt(t, fmt.Sprintf("Mean(%d, %d)", test.sum, test.n), got, err, test.want)
	}
}

// P2.2: what no mean is told of, at the bounds and just beyond; ErrArg goes ahead of ErrRange.
func TestMeanErrors(t *testing.T) {
	tests := []struct {
		sum, n int64
		want   api.Errno
	}{
		{5, 0, api.ErrArg}, {5, -1, api.ErrArg}, {5, math.MinInt64, api.ErrArg}, {5, -utmost - 1, api.ErrArg},
		{utmost + 1, 0, api.ErrArg}, {-utmost - 1, -1, api.ErrArg}, {math.MinInt64, 0, api.ErrArg}, {math.MaxInt64, math.MinInt64, api.ErrArg},
		{5, utmost + 1, api.ErrRange}, {0, utmost + 1, api.ErrRange}, {5, math.MaxInt64, api.ErrRange},
		{utmost + 1, 1, api.ErrRange}, {-utmost - 1, 1, api.ErrRange}, {utmost + 1, utmost, api.ErrRange}, {-utmost - 1, utmost, api.ErrRange},
		{math.MaxInt64, 1, api.ErrRange}, {math.MinInt64, 1, api.ErrRange}, {math.MinInt64, math.MaxInt64, api.ErrRange},
		{utmost + 1, utmost + 1, api.ErrRange},
	}
	for _, test := range tests {
		got, err := root.Mean(test.sum, test.n)
		wantErr(t, fmt.Sprintf("Mean(%d, %d)", test.sum, test.n), got, err, test.want)
	}
}

// P2.2, P2.3: means of all that turns, each at most a half off.
func TestMean(t *testing.T) {
	for _, sum := range ints() {
		for _, n := range ints() {
			holdsMean(t, sum, n)
		}
	}
	for sum := int64(-60); sum <= 60; sum++ {
		for n := int64(-3); n <= 25; n++ {
			holdsMean(t, sum, n)
		}
	}
}

// spread tells the sum of the squares of the distances of m to some numbers.
func spread(some []int64, m int64) int64 {
	sum := int64(0)
	for _, x := range some {
		sum += (x - m) * (x - m)
	}
	return sum
}

// P2.3: no whole number has a lesser sum of squares than the mean, and the mean is the greatest of the best.
func TestMeanIsBest(t *testing.T) {
	const far = 4
	var some [4]int64
	for code := range 9 * 9 * 9 * 9 {
		total := int64(0)
		for i := range some {
			some[i] = int64(code%9) - far
			code /= 9
		}
		for n := 1; n <= len(some); n++ {
			total += some[n-1]
			best := int64(-far - 1)
			for m := best; m <= far+1; m++ {
				if spread(some[:n], m) <= spread(some[:n], best) {
					best = m
				}
			}
			if got, err := root.Mean(total, int64(n)); got != best || err != api.OK {
				t.Fatalf("of %v: got %d, error %d, want %d", some[:n], got, err, best)
			}
		}
	}
}

// FuzzRoots holds P2.1 and P2.3 against numbers without a width.
func FuzzRoots(f *testing.F) {
	f.Add(uint64(0), uint64(0))
	f.Add(uint64(24), uint64(25))
	f.Add(uint64(math.MaxUint64), uint64(1))
	f.Fuzz(func(t *testing.T, a, b uint64) {
		holdsRoots(t, a)
		sum, err := root.Sum(a, b)
		wantU(t, "Sum", sum, err, new(big.Int).Add(largeU(a), largeU(b)))
		product, err := root.Mul(a, b)
		wantU(t, "Mul", product, err, new(big.Int).Mul(largeU(a), largeU(b)))
		square, err := root.Square(b)
		wantU(t, "Square", square, err, new(big.Int).Mul(largeU(b), largeU(b)))
	})
}

// FuzzMean holds P2.2 against numbers without a width.
func FuzzMean(f *testing.F) {
	f.Add(int64(-7), int64(2))
	f.Add(int64(math.MinInt64), int64(math.MaxInt64))
	f.Add(int64(utmost), int64(utmost))
	f.Add(int64(-utmost), int64(0))
	f.Fuzz(func(t *testing.T, a, b int64) {
		holdsDiv(t, a, b)
		holdsMean(t, a, b)
	})
}
