package vec_test

import (
	"fmt"
	"math"
	"math/big"
	"slices"
	"testing"

	"wayfinder/api"
	"wayfinder/octet"
	"wayfinder/vec"
)

const (
	wide   = api.MaxWide
	beyond = api.MaxWide + 1
)

// raw answers n raw numbers of all sizes and both signs.
func raw(n int) []int16 {
	v := make([]int16, n)
	for i := range v {
		v[i] = int16(uint32(i+1) * 40503)
	}
	return v
}

// row answers n times x.
func row(n int, x int32) []int32 { return slices.Repeat([]int32{x}, n) }

// with answers a copy of v in which x stands at i.
func with(v []int32, i int, x int32) []int32 {
	v = slices.Clone(v)
	v[i] = x
	return v
}

// draws answers a function that tells numbers below n, always the same ones.
func draws(seed uint64) func(n uint64) uint64 {
	return func(n uint64) uint64 {
		seed = seed*6364136223846793005 + 1442695040888963407
		return (seed >> 33) % n
	}
}

func wantErr(t *testing.T, what string, got, want api.Errno) {
	t.Helper()
	if got != want {
		t.Errorf("%s: error %d, want %d", what, got, want)
	}
}

// wantNumbers holds a list and an error against those that are wanted, and that with an error there is no list.
func wantNumbers[N int16 | int32 | byte](t *testing.T, what string, got []N, err api.Errno, want []N, wantErr api.Errno) {
	t.Helper()
	if err != wantErr || !slices.Equal(got, want) {
		t.Errorf("%s: got %v, error %d, want %v, error %d", what, got, err, want, wantErr)
	}
}

func wantDist(t *testing.T, what string, a, b []int32, want int64, wantErr api.Errno) {
	t.Helper()
	if got, err := vec.Dist(a, b); got != want || err != wantErr {
		t.Errorf("%s: got %d, error %d, want %d, error %d", what, got, err, want, wantErr)
	}
}

// P3.1, P3.3: the chapter's examples.
func TestExamples(t *testing.T) {
	wantDist(t, "of 1 2 and 4 -2", []int32{1, 2}, []int32{4, -2}, 25, api.OK)
	for double, want := range map[float64]int16{1.5: 2, -0.5: 0, 2.5: 2} {
		if got, err := vec.Fixed(math.Float64bits(double), 0); got != want || err != api.OK {
			t.Errorf("Fixed of %v: got %d, error %d", double, got, err)
		}
	}
}

// P3.1: a raw vector has dim numbers, from 1 to MaxDim.
func TestCheck(t *testing.T) {
	tests := []struct {
		n, dim int
		want   api.Errno
	}{
		{1, 1, api.OK}, {2, 2, api.OK}, {1023, 1023, api.OK}, {1024, 1024, api.OK},
		{0, 0, api.ErrArg}, {1025, 1025, api.ErrArg}, {2000, 2000, api.ErrArg},
		{0, 1, api.ErrArg}, {1, 0, api.ErrArg}, {1, -1, api.ErrArg}, {0, -1, api.ErrArg},
		{1, 2, api.ErrArg}, {2, 1, api.ErrArg}, {1024, 1023, api.ErrArg}, {1023, 1024, api.ErrArg},
		{1024, 1025, api.ErrArg}, {1025, 1024, api.ErrArg},
		{1, math.MaxInt, api.ErrArg}, {1, math.MinInt, api.ErrArg}, {0, math.MinInt, api.ErrArg},
	}
	for _, test := range tests {
		wantErr(t, fmt.Sprintf("Check of %d, %d", test.n, test.dim), vec.Check(raw(test.n), test.dim), test.want)
	}
	for _, dim := range []int{-1, 0, 1, 1024} {
		wantErr(t, "Check of nil", vec.Check(nil, dim), api.ErrArg)
	}
}

// P3.1: Wide has the same numbers, all there are of 16 bits among them, and however many.
func TestWide(t *testing.T) {
	all := make([]int16, 1<<16)
	for i := range all {
		all[i] = int16(i)
	}
	for _, v := range [][]int16{nil, {}, {5}, {math.MinInt16, -1, 0, 1, math.MaxInt16}, raw(1024), raw(1025), all} {
		got := vec.Wide(v)
		if len(got) != len(v) {
			t.Fatalf("Wide of %d numbers: got %d", len(v), len(got))
		}
		for i, x := range v {
			if int(got[i]) != int(x) {
				t.Errorf("Wide at %d: got %d, want %d", i, got[i], x)
			}
		}
	}
}

// P3.1: a wide vector has 1 to MaxDim numbers, none beyond MaxWide; ErrArg goes ahead.
func TestCheckWide(t *testing.T) {
	tests := []struct {
		what string
		v    []int32
		want api.Errno
	}{
		{"nil", nil, api.ErrArg},
		{"none", []int32{}, api.ErrArg},
		{"1", row(1, 0), api.OK},
		{"1024", row(1024, 7), api.OK},
		{"1025", row(1025, 7), api.ErrArg},
		{"the greatest", row(1024, wide), api.OK},
		{"the least", row(1024, -wide), api.OK},
		{"one above", row(1, beyond), api.ErrRange},
		{"one below", row(1, -beyond), api.ErrRange},
		{"the greatest of 32 bits", row(1, math.MaxInt32), api.ErrRange},
		{"the least of 32 bits", row(1, math.MinInt32), api.ErrRange},
		{"one above, first", with(row(1024, wide), 0, beyond), api.ErrRange},
		{"one below, last", with(row(1024, -wide), 1023, -beyond), api.ErrRange},
		{"too many, and beyond", row(1025, beyond), api.ErrArg},
		{"too many, the last beyond", with(row(1025, 0), 1024, -beyond), api.ErrArg},
	}
	for _, test := range tests {
		wantErr(t, test.what, vec.CheckWide(test.v), test.want)
	}
}

// pairErrors are pairs that neither Dist nor Sub nor Add takes, with the error that goes ahead.
func pairErrors() []struct {
	what string
	a, b []int32
	want api.Errno
} {
	fine, two := row(1, 3), row(2, 3)
	far, farTwo := row(1, beyond), row(2, -beyond)
	long, farLong := row(1025, 0), row(1025, beyond)
	return []struct {
		what string
		a, b []int32
		want api.Errno
	}{
		{"nil and nil", nil, nil, api.ErrArg},
		{"none and none", []int32{}, []int32{}, api.ErrArg},
		{"nil and one", nil, fine, api.ErrArg},
		{"one and nil", fine, nil, api.ErrArg},
		{"1 and 2", fine, two, api.ErrArg},
		{"2 and 1", two, fine, api.ErrArg},
		{"1024 and 1023", row(1024, 1), row(1023, 1), api.ErrArg},
		{"1025 and 1025", long, long, api.ErrArg},
		{"1025 and 1024", long, row(1024, 0), api.ErrArg},
		{"1024 and 1025", row(1024, 0), long, api.ErrArg},
		{"a beyond", far, fine, api.ErrRange},
		{"b beyond", fine, far, api.ErrRange},
		{"both beyond", far, far, api.ErrRange},
		{"a beyond ahead of b nil", far, nil, api.ErrRange},
		{"a beyond ahead of b too long", far, long, api.ErrRange},
		{"a beyond ahead of not as long", far, two, api.ErrRange},
		{"b beyond ahead of not as long", fine, farTwo, api.ErrRange},
		{"a nil ahead of b beyond", nil, far, api.ErrArg},
		{"a too long ahead of b beyond", farLong, far, api.ErrArg},
		{"b too long ahead of its numbers", fine, farLong, api.ErrArg},
		{"the least of 32 bits", row(1, math.MinInt32), row(1, math.MaxInt32), api.ErrRange},
		{"the last beyond", with(row(1024, 0), 1023, beyond), row(1024, 0), api.ErrRange},
	}
}

// P3.1: CheckWide's error of a, then of b, then that they are not as long; nothing beside an error.
func TestPairErrors(t *testing.T) {
	for _, test := range pairErrors() {
		wantDist(t, "Dist: "+test.what, test.a, test.b, 0, test.want)
		sub, err := vec.Sub(test.a, test.b)
		wantNumbers(t, "Sub: "+test.what, sub, err, nil, test.want)
		add, err := vec.Add(test.a, test.b)
		wantNumbers(t, "Add: "+test.what, add, err, nil, test.want)
	}
}

// P3.1, P3.4: distances that are written out, and those of vectors as far apart as may be.
func TestDist(t *testing.T) {
	tests := []struct {
		what string
		a, b []int32
		want int64
	}{
		{"of itself", []int32{-4, 9}, []int32{-4, 9}, 0},
		{"one number", []int32{-4}, []int32{3}, 49},
		{"one apart", []int32{1, 2, 3}, []int32{1, 2, 4}, 1},
		{"all places count", []int32{1, 2, 3, 4}, []int32{0, 0, 0, 0}, 30},
		{"signs", []int32{-1, -2}, []int32{2, 2}, 25},
		{"one number, farthest", row(1, wide), row(1, -wide), 1 << 36},
		{"farthest", row(1024, wide), row(1024, -wide), 1 << 46},
		{"farthest but one step", row(1024, wide), with(row(1024, -wide), 1023, 1-wide), 1<<46 - 1<<19 + 1},
		{"farthest from nought", row(1024, -wide), row(1024, 0), 1 << 44},
		{"raw ones, farthest", vec.Wide(slices.Repeat([]int16{math.MaxInt16}, 1024)), vec.Wide(slices.Repeat([]int16{math.MinInt16}, 1024)), 1024 * 65535 * 65535},
	}
	for _, test := range tests {
		wantDist(t, test.what, test.a, test.b, test.want, api.OK)
		wantDist(t, test.what+", turned round", test.b, test.a, test.want, api.OK)
	}
}

// P3.1: differences and sums at MaxWide, and just beyond.
func TestSubAdd(t *testing.T) {
	tests := []struct {
		what     string
		a, b     []int32
		sub, add []int32
	}{
		{"ordinary", []int32{1, 2, -3}, []int32{4, -2, -5}, []int32{-3, 4, 2}, []int32{5, 0, -8}},
		{"one", []int32{7}, []int32{7}, []int32{0}, []int32{14}},
		{"at the bounds", []int32{wide, -wide}, []int32{0, 0}, []int32{wide, -wide}, []int32{wide, -wide}},
		{"of nought", []int32{0, 0}, []int32{wide, -wide}, []int32{-wide, wide}, []int32{wide, -wide}},
		{"halves", []int32{wide / 2, -wide / 2}, []int32{wide / 2, -wide / 2}, []int32{0, 0}, []int32{wide, -wide}},
		{"a sum just above", []int32{wide}, []int32{1}, []int32{wide - 1}, nil},
		{"a sum just below", []int32{-wide}, []int32{-1}, []int32{1 - wide}, nil},
		{"a difference just above", []int32{wide}, []int32{-1}, nil, []int32{wide - 1}},
		{"a difference just below", []int32{-wide}, []int32{1}, nil, []int32{1 - wide}},
		{"both, at two places", []int32{wide, wide}, []int32{1, -1}, nil, nil},
		{"sums as far as may be", []int32{wide}, []int32{wide}, []int32{0}, nil},
		{"differences as far as may be", []int32{-wide}, []int32{wide}, nil, []int32{0}},
		{"1024", row(1024, wide-5), row(1024, 5), row(1024, wide-10), row(1024, wide)},
		{"the last of 1024 too great", row(1024, wide-5), with(row(1024, 5), 1023, 6), with(row(1024, wide-10), 1023, wide-11), nil},
		{"the last of 1024 too small", row(1024, 5-wide), with(row(1024, 5), 1023, 6), nil, with(row(1024, 10-wide), 1023, 11-wide)},
	}
	for _, test := range tests {
		sub, err := vec.Sub(test.a, test.b)
		wantNumbers(t, "Sub: "+test.what, sub, err, test.sub, rangeOf(test.sub))
		add, err := vec.Add(test.a, test.b)
		wantNumbers(t, "Add: "+test.what, add, err, test.add, rangeOf(test.add))
	}
}

// rangeOf tells ErrRange of a list that is none.
func rangeOf(v []int32) api.Errno {
	if v == nil {
		return api.ErrRange
	}
	return api.OK
}

// P3.1: all small pairs of numbers about the bounds, against numbers of 64 bits.
func TestSubAddAboutBounds(t *testing.T) {
	var some []int32
	for _, at := range []int32{-wide, -wide / 2, 0, wide / 2, wide} {
		for off := int32(-3); off <= 3; off++ {
			some = append(some, at+off)
		}
	}
	for _, a := range some {
		for _, b := range some {
			holdsNumber(t, "Sub", vec.Sub, a, b, int64(a)-int64(b))
			holdsNumber(t, "Add", vec.Add, a, b, int64(a)+int64(b))
		}
	}
}

// holdsNumber holds what a call makes of two vectors of one number against what is wanted.
func holdsNumber(t *testing.T, name string, call func(a, b []int32) ([]int32, api.Errno), a, b int32, want int64) {
	t.Helper()
	numbers, wantErr := []int32{int32(want)}, api.OK
	for _, x := range []int64{int64(a), int64(b), want} {
		if x < -wide || x > wide {
			numbers, wantErr = nil, api.ErrRange
		}
	}
	got, err := call([]int32{a}, []int32{b})
	wantNumbers(t, fmt.Sprintf("%s(%d, %d)", name, a, b), got, err, numbers, wantErr)
}

// P3.1: Same tells just of the same numbers, of whatever they are.
func TestSame(t *testing.T) {
	tests := []struct {
		what string
		a, b []int32
		want bool
	}{
		{"nil, nil", nil, nil, true},
		{"nil, none", nil, []int32{}, true},
		{"none, nil", []int32{}, nil, true},
		{"nil, 0", nil, []int32{0}, false},
		{"0, nil", []int32{0}, nil, false},
		{"the same", []int32{1, -2}, []int32{1, -2}, true},
		{"the first another", []int32{1, -2}, []int32{2, -2}, false},
		{"the last another", []int32{1, -2}, []int32{1, 2}, false},
		{"shorter", []int32{1}, []int32{1, 0}, false},
		{"longer", []int32{1, 0}, []int32{1}, false},
		{"turned round", []int32{1, 2}, []int32{2, 1}, false},
		{"1024", row(1024, 9), row(1024, 9), true},
		{"1024, the last another", row(1024, 9), with(row(1024, 9), 1023, 8), false},
		{"1025", row(1025, 9), row(1025, 9), true},
		{"beyond", row(2, math.MaxInt32), row(2, math.MaxInt32), true},
		{"beyond, another", row(2, math.MaxInt32), row(2, math.MinInt32), false},
	}
	for _, test := range tests {
		if got := vec.Same(test.a, test.b); got != test.want {
			t.Errorf("Same of %s: got %t", test.what, got)
		}
	}
}

// P3.2: bytes that are written out: low byte first, signed.
func TestBytes(t *testing.T) {
	tests := []struct {
		v    []int16
		want []byte
	}{
		{nil, nil}, {[]int16{}, nil},
		{[]int16{0}, []byte{0, 0}}, {[]int16{1}, []byte{1, 0}}, {[]int16{-1}, []byte{255, 255}},
		{[]int16{258}, []byte{2, 1}}, {[]int16{255}, []byte{255, 0}}, {[]int16{256}, []byte{0, 1}}, {[]int16{-256}, []byte{0, 255}},
		{[]int16{math.MinInt16, math.MaxInt16}, []byte{0, 128, 255, 127}},
		{[]int16{1, -2, 3}, []byte{1, 0, 254, 255, 3, 0}},
	}
	for _, test := range tests {
		wantNumbers(t, "Bytes", vec.Bytes(test.v), api.OK, test.want, api.OK)
		got, err := vec.Read(test.want)
		wantNumbers(t, "Read", got, err, test.v, api.OK)
	}
}

// P3.2: the bytes are octet's, of all numbers of 16 bits, and more of them than Read takes.
func TestBytesOfAll(t *testing.T) {
	var all []int16
	var want []byte
	for x := math.MinInt16; x <= math.MaxInt16; x++ {
		all = append(all, int16(x))
		one := octet.Put(nil, uint64(int64(x)), 2)
		want = append(want, one...)
		got, err := vec.Read(one)
		wantNumbers(t, "Read", got, err, []int16{int16(x)}, api.OK)
	}
	wantNumbers(t, "Bytes of all", vec.Bytes(all), api.OK, want, api.OK)
}

// P3.2: as many bytes as may be, more, and an odd number of them; ErrLong goes ahead.
func TestRead(t *testing.T) {
	tests := []struct {
		n    int
		want api.Errno
	}{
		{0, api.OK}, {1, api.ErrBad}, {2, api.OK}, {3, api.ErrBad}, {2046, api.OK}, {2047, api.ErrBad},
		{2048, api.OK}, {2049, api.ErrLong}, {2050, api.ErrLong}, {4096, api.ErrLong}, {4097, api.ErrLong},
	}
	for _, test := range tests {
		v := raw(test.n / 2)
		b := vec.Bytes(raw(test.n/2 + 1))[:test.n]
		if test.want != api.OK {
			v = nil
		}
		got, err := vec.Read(b)
		wantNumbers(t, fmt.Sprintf("Read of %d bytes", test.n), got, err, v, test.want)
	}
	got, err := vec.Read(nil)
	wantNumbers(t, "Read of nil", got, err, nil, api.OK)
}

// P3.3: what comes of doubles that are written out.
func TestFixed(t *testing.T) {
	up, down := math.Inf(1), math.Inf(-1)
	tests := []struct {
		x    float64
		frac int
		want int16
		err  api.Errno
	}{
		{0, 0, 0, api.OK}, {math.Copysign(0, -1), 0, 0, api.OK}, {math.Copysign(0, -1), 15, 0, api.OK},
		{1, 0, 1, api.OK}, {-1, 0, -1, api.OK}, {7, 3, 56, api.OK}, {0.1, 15, 3277, api.OK}, {-0.1, 15, -3277, api.OK},
		{0.5, 0, 0, api.OK}, {-0.5, 0, 0, api.OK}, {1.5, 0, 2, api.OK}, {-1.5, 0, -2, api.OK},
		{2.5, 0, 2, api.OK}, {-2.5, 0, -2, api.OK}, {3.5, 0, 4, api.OK}, {-3.5, 0, -4, api.OK},
		{math.Nextafter(0.5, 0), 0, 0, api.OK}, {math.Nextafter(0.5, 1), 0, 1, api.OK},
		{math.Nextafter(-0.5, 0), 0, 0, api.OK}, {math.Nextafter(-0.5, -1), 0, -1, api.OK},
		{math.Nextafter(1.5, 0), 0, 1, api.OK}, {math.Nextafter(1.5, 2), 0, 2, api.OK},
		{math.Nextafter(2.5, 0), 0, 2, api.OK}, {math.Nextafter(2.5, 3), 0, 3, api.OK},
		{math.Nextafter(-1.5, 0), 0, -1, api.OK}, {math.Nextafter(-2.5, -3), 0, -3, api.OK},
		{0.25, 1, 0, api.OK}, {0.75, 1, 2, api.OK}, {-0.75, 1, -2, api.OK}, {1.25, 1, 2, api.OK},
		{math.Ldexp(1, -16), 15, 0, api.OK}, {math.Ldexp(3, -16), 15, 2, api.OK}, {math.Ldexp(-3, -16), 15, -2, api.OK},
		{math.Nextafter(math.Ldexp(1, -16), 1), 15, 1, api.OK}, {math.Nextafter(math.Ldexp(-1, -16), -1), 15, -1, api.OK},
		{32767, 0, 32767, api.OK}, {32767.25, 0, 32767, api.OK}, {math.Nextafter(32767.5, 0), 0, 32767, api.OK},
		{32767.5, 0, 0, api.ErrRange}, {math.Nextafter(32767.5, up), 0, 0, api.ErrRange}, {32767.75, 0, 0, api.ErrRange}, {32768, 0, 0, api.ErrRange},
		{-32767.5, 0, -32768, api.OK}, {-32768, 0, -32768, api.OK}, {-32768.25, 0, -32768, api.OK}, {-32768.5, 0, -32768, api.OK},
		{math.Nextafter(-32768.5, down), 0, 0, api.ErrRange}, {-32768.75, 0, 0, api.ErrRange}, {-32769, 0, 0, api.ErrRange},
		{1, 15, 0, api.ErrRange}, {-1, 15, -32768, api.OK}, {math.Nextafter(1, 0), 15, 0, api.ErrRange}, {math.Ldexp(32767, -15), 15, 32767, api.OK},
		{math.Ldexp(65535, -16), 15, 0, api.ErrRange}, {math.Ldexp(-65537, -16), 15, -32768, api.OK}, {math.Ldexp(-65539, -16), 15, 0, api.ErrRange},
		{65536, 0, 0, api.ErrRange}, {65537, 0, 0, api.ErrRange}, {-65536, 0, 0, api.ErrRange}, {1 << 32, 0, 0, api.ErrRange}, {1 << 63, 0, 0, api.ErrRange}, {1 << 64, 0, 0, api.ErrRange},
		{math.SmallestNonzeroFloat64, 0, 0, api.OK}, {-math.SmallestNonzeroFloat64, 0, 0, api.OK}, {math.SmallestNonzeroFloat64, 15, 0, api.OK}, {-math.SmallestNonzeroFloat64, 15, 0, api.OK},
		{math.MaxFloat64, 0, 0, api.ErrRange}, {-math.MaxFloat64, 0, 0, api.ErrRange}, {math.MaxFloat64, 15, 0, api.ErrRange}, {-math.MaxFloat64, 15, 0, api.ErrRange},
		{up, 0, 0, api.ErrRange}, {down, 0, 0, api.ErrRange}, {up, 15, 0, api.ErrRange}, {down, 15, 0, api.ErrRange},
	}
	for _, test := range tests {
		if got, err := vec.Fixed(math.Float64bits(test.x), test.frac); got != test.want || err != test.err {
			t.Errorf("Fixed of %v, %d: got %d, error %d, want %d, error %d", test.x, test.frac, got, err, test.want, test.err)
		}
	}
}

// noNumbers are doubles that are no numbers: quiet and signalling, with both signs.
func noNumbers() []uint64 {
	return []uint64{
		0x7ff8000000000000, 0xfff8000000000000, 0x7ff0000000000001, 0xfff0000000000001, 0x7ff8000000000001,
		0x7fffffffffffffff, 0xffffffffffffffff, 0x7ff4000000000000, 0x7ff7ffffffffffff, 0xfff7ffffffffffff,
	}
}

// P3.3: a frac that may not be and a double that is no number are ErrArg, ahead of ErrRange.
func TestFixedErrors(t *testing.T) {
	fracs := []int{-1, 16, 17, 63, 64, -64, math.MinInt, math.MaxInt}
	doubles := append(noNumbers(), math.Float64bits(1), math.Float64bits(math.Inf(1)), math.Float64bits(math.Inf(-1)), math.Float64bits(1e300))
	for _, double := range doubles {
		for _, frac := range fracs {
			holdsFixed(t, double, frac)
		}
	}
	for _, double := range noNumbers() {
		for frac := -2; frac <= 17; frac++ {
			if got, err := vec.Fixed(double, frac); got != 0 || err != api.ErrArg {
				t.Errorf("Fixed(%x, %d): got %d, error %d", double, frac, got, err)
			}
		}
	}
}

// halfEven answers the whole number that is nearest to x, of two as near the even one, without a double.
func halfEven(x *big.Rat) *big.Int {
	twice := new(big.Rat).Mul(x, big.NewRat(2, 1))
	twice.Add(twice, big.NewRat(1, 1))
	double := new(big.Int).Mul(twice.Denom(), big.NewInt(2))
	// What is not above x and a half more: the nearest, of two the greater one.
	whole, left := new(big.Int).DivMod(twice.Num(), double, new(big.Int))
	if left.Sign() == 0 && whole.Bit(0) == 1 {
		whole.Sub(whole, big.NewInt(1))
	}
	return whole
}

// fixedWanted tells what Fixed should answer, by the bits alone.
func fixedWanted(double uint64, frac int) (int16, api.Errno) {
	exponent, fraction := int(double>>52&0x7ff), double&(1<<52-1)
	if frac < 0 || frac > 15 || exponent == 0x7ff && fraction != 0 {
		return 0, api.ErrArg
	}
	if exponent == 0x7ff {
		return 0, api.ErrRange
	}
	if exponent > 0 {
		fraction |= 1 << 52
	} else {
		exponent = 1
	}
	x := new(big.Rat).SetInt(new(big.Int).SetUint64(fraction))
	power := new(big.Rat).SetInt(new(big.Int).Lsh(big.NewInt(1), uint(max(exponent-1075+frac, 1075-exponent-frac))))
	if exponent-1075+frac < 0 {
		power.Inv(power)
	}
	x.Mul(x, power)
	if double>>63 == 1 {
		x.Neg(x)
	}
	whole := halfEven(x)
	if !whole.IsInt64() || whole.Int64() < math.MinInt16 || whole.Int64() > math.MaxInt16 {
		return 0, api.ErrRange
	}
	return int16(whole.Int64()), api.OK
}

func holdsFixed(t *testing.T, double uint64, frac int) {
	t.Helper()
	want, wantErr := fixedWanted(double, frac)
	if got, err := vec.Fixed(double, frac); got != want || err != wantErr {
		t.Errorf("Fixed(%x, %d): got %d, error %d, want %d, error %d", double, frac, got, err, want, wantErr)
	}
}

// P3.3: about halves and wholes of all sizes, at every frac, against numbers without a width.
func TestFixedAboutHalves(t *testing.T) {
	for frac := 0; frac <= 15; frac++ {
		for bit := 0; bit <= 17; bit++ {
			for off := -4; off <= 4; off++ {
				x := math.Ldexp(float64(2<<bit+off), -1-frac)
				for _, double := range []float64{x, math.Nextafter(x, 1e9), math.Nextafter(x, -1e9)} {
					holdsFixed(t, math.Float64bits(double), frac)
					holdsFixed(t, math.Float64bits(-double), frac)
				}
			}
		}
	}
}

// P3.3: doubles of all exponents, drawn.
func TestFixedDrawn(t *testing.T) {
	draw := draws(3)
	for exponent := range uint64(0x800) {
		for frac := -1; frac <= 16; frac++ {
			holdsFixed(t, draw(2)<<63|exponent<<52|draw(1<<26)<<26|draw(1<<26), frac)
			holdsFixed(t, draw(2)<<63|exponent<<52, frac)
			holdsFixed(t, draw(2)<<63|exponent<<52|1, frac)
		}
	}
}

// P3.4: of drawn vectors: not below 0, 0 just of the same, the same turned round, below 2^47, its root a metric.
func TestMetric(t *testing.T) {
	draw := draws(4)
	for round := range 3000 {
		dim := int(1 + draw(4))
		most := []uint64{2, 5, wide + 1}[round%3]
		var v [3][]int32
		for i := range v {
			for range dim {
				v[i] = append(v[i], int32(draw(2*most-1))-int32(most-1))
			}
		}
		holdsMetric(t, v[0], v[1], v[2])
	}
	holdsMetric(t, row(1024, wide), row(1024, -wide), row(1024, 0))
	holdsMetric(t, row(1024, -wide), row(1024, wide), row(1024, wide))
}

// holdsMetric holds the distances of a, b and c against the document's words.
func holdsMetric(t *testing.T, a, b, c []int32) {
	t.Helper()
	dist := func(a, b []int32) int64 {
		d, err := vec.Dist(a, b)
		if err != api.OK || d < 0 || d >= 1<<47 || (d == 0) != slices.Equal(a, b) || vec.Same(a, b) != (d == 0) {
			t.Errorf("Dist of %v, %v: got %d, error %d", a, b, d, err)
		}
		if turned, _ := vec.Dist(b, a); turned != d {
			t.Errorf("Dist of %v, %v: got %d, turned round %d", a, b, d, turned)
		}
		want := new(big.Int)
		for i := range a {
			apart := big.NewInt(int64(a[i]) - int64(b[i]))
			want.Add(want, apart.Mul(apart, apart))
		}
		if want.Cmp(big.NewInt(d)) != 0 {
			t.Errorf("Dist of %v, %v: got %d, want %d", a, b, d, want)
		}
		return d
	}
	direct, one, other := dist(a, c), dist(a, b), dist(b, c)
	// root(direct) <= root(one) + root(other), squared: direct - one - other <= 2 root(one other).
	over := big.NewInt(direct - one - other)
	four := new(big.Int).Mul(big.NewInt(4*one), big.NewInt(other))
	if over.Sign() > 0 && over.Mul(over, over).Cmp(four) > 0 {
		t.Errorf("of %v, %v, %v: %d is farther than %d and %d", a, b, c, direct, one, other)
	}
}

// guarded answers v with spare room that holds marks, and a function that tells whether all is as it was.
func guarded[N int16 | int32 | byte](v []N) ([]N, func() bool) {
	was := slices.Concat(v, slices.Repeat([]N{77}, 8))
	held := slices.Clone(was)
	return held[:len(v)], func() bool { return slices.Equal(held, was) }
}

// Rule 3: nothing that is handed in is changed, its spare room neither.
func TestArgumentsStay(t *testing.T) {
	a, aStays := guarded([]int32{1, 2, 3})
	b, bStays := guarded([]int32{-4, 5, 6})
	v, vStays := guarded([]int16{7, -8})
	code, codeStays := guarded([]byte{1, 2, 3, 4})
	vec.Check(v, 2)
	vec.CheckWide(a)
	vec.Dist(a, b)
	vec.Same(a, b)
	sub, _ := vec.Sub(a, b)
	add, _ := vec.Add(a, b)
	wideOne, bytes := vec.Wide(v), vec.Bytes(v)
	read, _ := vec.Read(code)
	fill(sub, 50)
	fill(add, 51)
	fill(wideOne, 52)
	fill(bytes, 53)
	fill(read, 54)
	if !aStays() || !bStays() || !vStays() || !codeStays() {
		t.Error("an argument was changed")
	}
	if add[0] != 51 || sub[0] != 50 {
		t.Error("two answers share memory")
	}
}

// fill writes x all over v, its spare room too.
func fill[N int16 | int32 | byte](v []N, x N) {
	v = v[:cap(v)]
	for i := range v {
		v[i] = x
	}
}

// Rule 3: what was answered is not changed by a later call or by what becomes of the arguments.
func TestAnswersStay(t *testing.T) {
	a, b, v, code := []int32{1, 2}, []int32{3, 5}, []int16{7, 8}, []byte{1, 0, 2, 0}
	sub, _ := vec.Sub(a, b)
	add, _ := vec.Add(a, b)
	wideOne, bytes := vec.Wide(v), vec.Bytes(v)
	read, _ := vec.Read(code)
	fill(a, 60)
	fill(b, 61)
	fill(v, 62)
	fill(code, 63)
	vec.Sub(a, b)
	vec.Add(a, b)
	vec.Wide(v)
	vec.Bytes(v)
	vec.Read(code)
	wantNumbers(t, "Sub", sub, api.OK, []int32{-2, -3}, api.OK)
	wantNumbers(t, "Add", add, api.OK, []int32{4, 7}, api.OK)
	wantNumbers(t, "Wide", wideOne, api.OK, []int32{7, 8}, api.OK)
	wantNumbers(t, "Bytes", bytes, api.OK, []byte{7, 0, 8, 0}, api.OK)
	wantNumbers(t, "Read", read, api.OK, []int16{1, 2}, api.OK)
}

// Rule 3: one vector handed in twice is no other than two that are the same.
func TestOneVectorTwice(t *testing.T) {
	a := []int32{5, -6}
	wantDist(t, "of itself", a, a, 0, api.OK)
	sub, err := vec.Sub(a, a)
	wantNumbers(t, "Sub", sub, err, []int32{0, 0}, api.OK)
	add, err := vec.Add(a, a)
	wantNumbers(t, "Add", add, err, []int32{10, -12}, api.OK)
	wantNumbers(t, "a", a, api.OK, []int32{5, -6}, api.OK)
}

// FuzzFixed holds P3.3 against numbers without a width.
func FuzzFixed(f *testing.F) {
	f.Add(math.Float64bits(1.5), 0)
	f.Add(math.Float64bits(-32768.5), 0)
	f.Add(uint64(0x7ff0000000000001), 15)
	f.Add(uint64(1), -1)
	f.Fuzz(holdsFixed)
}

// FuzzRead holds P3.2: what is read is written to the same bytes.
func FuzzRead(f *testing.F) {
	f.Add([]byte{})
	f.Add([]byte{0, 128, 255, 127})
	f.Add([]byte{1})
	f.Add(make([]byte, 2049))
	f.Fuzz(func(t *testing.T, b []byte) {
		v, err := vec.Read(b)
		if err == api.OK && !slices.Equal(vec.Bytes(v), b) {
			t.Errorf("of %v: %v", b, v)
		}
		if (err == api.OK) != (len(b) <= 2048 && len(b)%2 == 0) {
			t.Errorf("of %d bytes: error %d", len(b), err)
		}
	})
}
