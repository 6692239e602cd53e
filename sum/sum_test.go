package sum_test

import (
	"bytes"
	"hash/crc32"
	"math"
	"os"
	"os/exec"
	"slices"
	"sync"
	"testing"

	"wayfinder/sum"
)

// byHand answers the sum of b, bit by bit as the section 'Words' tells it.
func byHand(b []byte) uint32 {
	r := uint32(math.MaxUint32)
	for _, x := range b {
		r ^= uint32(x)
		for range 8 {
			r = stepByHand(r)
		}
	}
	return ^r
}

// stepByHand answers the register r one step on.
func stepByHand(r uint32) uint32 {
	out := r % 2
	r /= 2
	if out == 1 {
		r ^= 2197175160
	}
	return r
}

// movedByHand answers the register r behind 8 n steps, taken one by one.
func movedByHand(r uint32, n int) uint32 {
	for range n {
		for range 8 {
			r = stepByHand(r)
		}
	}
	return r
}

// draws answers a function that tells numbers of 32 bits, always the same ones.
func draws(seed uint64) func() uint32 {
	return func() uint32 {
		seed = seed*6364136223846793005 + 1442695040888963407
		return uint32(seed >> 32)
	}
}

// drawn answers n bytes.
func drawn(draw func() uint32, n int) []byte {
	b := make([]byte, n)
	for i := range b {
		b[i] = byte(draw() >> 24)
	}
	return b
}

// rising answers n bytes that go up from 0.
func rising(n int) []byte {
	b := make([]byte, n)
	for i := range b {
		b[i] = byte(i)
	}
	return b
}

// falling answers n bytes that go down to 0.
func falling(n int) []byte {
	b := rising(n)
	slices.Reverse(b)
	return b
}

// noughts and ones answer n bytes of those bits alone.
func noughts(n int) []byte { return make([]byte, n) }
func ones(n int) []byte    { return bytes.Repeat([]byte{255}, n) }

// rows answers bytes of several kinds, from none on.
func rows() [][]byte {
	draw := draws(1)
	l := [][]byte{nil, {}, {0}, {1}, {128}, {255}, []byte("123456789"), rising(256), falling(256)}
	for _, n := range []int{1, 2, 3, 4, 5, 7, 8, 9, 31, 32, 33, 63, 64, 65, 100} {
		l = append(l, noughts(n), ones(n), rising(n), drawn(draw, n))
	}
	return l
}

// sums answers sums at the edges, those of one bit alone and some that are drawn.
func sums() []uint32 {
	l := []uint32{0, 1, 2, math.MaxUint32, math.MaxUint32 - 1, 1 << 31, 1<<31 - 1, 0x82f63b78, 0xe3069283}
	for i := range 32 {
		l = append(l, 1<<i, ^uint32(1<<i))
	}
	draw := draws(2)
	for range 8 {
		l = append(l, draw())
	}
	return l
}

// lengths answers n at, just below and just above the powers of two, so far as an int goes.
func lengths() []int {
	l := []int{0, math.MaxInt, math.MaxInt - 1}
	for i := range 63 {
		l = append(l, 1<<i-1, 1<<i, 1<<i+1)
	}
	slices.Sort(l)
	return slices.Compact(l)
}

// below answers n below 1 at the edges.
func below() []int { return []int{0, -1, -2, -8, -1 << 31, -1 << 32, math.MinInt + 1, math.MinInt} }

// TestKnownSums: P5.1, the chapter's example and sums that are told elsewhere (RFC 3720 and others).
func TestKnownSums(t *testing.T) {
	read := slices.Concat([]byte{1, 192}, noughts(14), []byte{20}, noughts(5), []byte{4, 0, 0, 0, 0, 20, 0, 0, 0, 24, 40}, noughts(7), []byte{2}, noughts(7))
	for _, c := range []struct {
		name string
		b    []byte
		want uint32
	}{
		{"nil", nil, 0},
		{"no bytes", []byte{}, 0},
		{"the nine digits", []byte("123456789"), 3808858755},
		{"a", []byte("a"), 0xc1d04330},
		{"abc", []byte("abc"), 0x364b3fb7},
		{"message digest", []byte("message digest"), 0x02bd79d0},
		{"letters", []byte("abcdefghijklmnopqrstuvwxyz"), 0x9ee6ef25},
		{"32 noughts", noughts(32), 0x8a9136aa},
		{"32 of ones", ones(32), 0x62a8ab43},
		{"32 rising", rising(32), 0x46dd794e},
		{"32 falling", falling(32), 0x113fdb5c},
		{"a read command", read, 0xd9963a56},
		{"one nought", []byte{0}, 0x527d5351},
		{"four of ones", ones(4), 0xffffffff},
	} {
		if got := sum.Of(c.b); got != c.want {
			t.Errorf("Of %s: %#x, want %#x", c.name, got, c.want)
		}
	}
}

// TestOfByHand: P5.1, Of is the sum as the section 'Words' tells it, and the one that others tell.
func TestOfByHand(t *testing.T) {
	castagnoli := crc32.MakeTable(crc32.Castagnoli)
	l := rows()
	for i := range 256 {
		l = append(l, []byte{byte(i)}, []byte{byte(i), 0}, []byte{7, byte(i)})
	}
	draw := draws(3)
	for n := range 300 {
		l = append(l, drawn(draw, n))
	}
	l = append(l, drawn(draw, 100_000))
	for _, b := range l {
		got := sum.Of(b)
		if want := byHand(b); got != want {
			t.Errorf("Of %d bytes: %#x, by hand %#x", len(b), got, want)
		}
		if want := crc32.Checksum(b, castagnoli); got != want {
			t.Errorf("Of %d bytes: %#x, others tell %#x", len(b), got, want)
		}
	}
}

// TestMoreByHand: P5.1, More of every sum takes it for a register's and goes on by the section 'Words'; of no bytes it is the sum itself.
func TestMoreByHand(t *testing.T) {
	for _, s := range sums() {
		if sum.More(s, nil) != s || sum.More(s, []byte{}) != s {
			t.Errorf("More(%#x) of no bytes: %#x, %#x", s, sum.More(s, nil), sum.More(s, []byte{}))
		}
		for _, b := range rows() {
			r := ^s
			for _, x := range b {
				r = movedByHand(r^uint32(x), 1)
			}
			if got := sum.More(s, b); got != ^r {
				t.Errorf("More(%#x, %d bytes): %#x, want %#x", s, len(b), got, ^r)
			}
		}
	}
}

// TestCutAnywhere: P5.2, More of the first part's sum with the rest, and Join of both parts' sums, are Of's of all, wherever it is cut.
func TestCutAnywhere(t *testing.T) {
	l := append(rows(), drawn(draws(4), 1000))
	for _, b := range l {
		all := byHand(b)
		for i := range len(b) + 1 {
			first, rest := b[:i], b[i:]
			if got := sum.More(sum.Of(first), rest); got != all {
				t.Fatalf("More of %d bytes cut at %d: %#x, want %#x", len(b), i, got, all)
			}
			if got := sum.Join(sum.Of(first), sum.Of(rest), len(rest)); got != all {
				t.Fatalf("Join of %d bytes cut at %d: %#x, want %#x", len(b), i, got, all)
			}
		}
	}
}

// TestManyParts: P5.2, parts that are joined from the left, from the right or gone on with make one sum.
func TestManyParts(t *testing.T) {
	draw := draws(5)
	for range 200 {
		var all []byte
		var more, left uint32
		parts := make([][]byte, draw()%6)
		for i := range parts {
			parts[i] = drawn(draw, int(draw()%40))
			all = append(all, parts[i]...)
			more = sum.More(more, parts[i])
			left = sum.Join(left, sum.Of(parts[i]), len(parts[i]))
		}
		var right uint32
		n := 0
		for _, p := range slices.Backward(parts) {
			right = sum.Join(sum.Of(p), right, n)
			n += len(p)
		}
		if want := byHand(all); more != want || left != want || right != want {
			t.Fatalf("%d parts: %#x, %#x, %#x, want %#x", len(parts), more, left, right, want)
		}
	}
}

// TestJoinByHand: P5.1, Join is a moved by 8 n steps, exclusive or b, at every a and b: b need not be a sum of n bytes that are there.
func TestJoinByHand(t *testing.T) {
	for _, a := range sums() {
		for _, n := range []int{1, 2, 3, 4, 5, 7, 8, 9, 15, 16, 17, 31, 32, 33, 255, 256, 257} {
			for _, b := range []uint32{0, 1, math.MaxUint32, 1 << 31, 0xe3069283} {
				if got, want := sum.Join(a, b, n), movedByHand(a, n)^b; got != want {
					t.Fatalf("Join(%#x, %#x, %d): %#x, want %#x", a, b, n, got, want)
				}
			}
		}
	}
	for _, n := range []int{1<<16 - 1, 1 << 16, 1<<16 + 1, 1_000_003} {
		if got, want := sum.Join(0xe3069283, 5, n), movedByHand(0xe3069283, n)^5; got != want {
			t.Errorf("Join of %d: %#x, want %#x", n, got, want)
		}
	}
}

// TestBelowOne: P5.1, of n below 1 Join is a, whatever b is, and Noughts is s.
func TestBelowOne(t *testing.T) {
	for _, n := range below() {
		for _, a := range sums() {
			for _, b := range sums() {
				if got := sum.Join(a, b, n); got != a {
					t.Fatalf("Join(%#x, %#x, %d): %#x", a, b, n, got)
				}
			}
			if got := sum.Noughts(a, n); got != a {
				t.Fatalf("Noughts(%#x, %d): %#x", a, n, got)
			}
		}
	}
}

// TestNoughtsByHand: P5.1, Noughts of n is Of with n noughts behind, and More with them, at every sum.
func TestNoughtsByHand(t *testing.T) {
	some := []int{0, 1, 2, 3, 4, 5, 7, 8, 9, 15, 16, 17, 31, 32, 33, 127, 128, 129, 1023, 1024, 1025}
	for _, b := range rows() {
		for _, n := range some {
			if got, want := sum.Noughts(sum.Of(b), n), byHand(slices.Concat(b, noughts(n))); got != want {
				t.Fatalf("Noughts of %d bytes and %d: %#x, want %#x", len(b), n, got, want)
			}
		}
	}
	for _, s := range sums() {
		for _, n := range some {
			if got, want := sum.Noughts(s, n), ^movedByHand(^s, n); got != want {
				t.Fatalf("Noughts(%#x, %d): %#x, want %#x", s, n, got, want)
			}
		}
	}
	for _, n := range []int{1<<16 - 1, 1 << 16, 1<<16 + 1, 1_000_003} {
		if got, want := sum.Noughts(0, n), byHand(noughts(n)); got != want {
			t.Errorf("Noughts(0, %d): %#x, want %#x", n, got, want)
		}
	}
}

// TestOnAndOn: P5.2, n noughts and then m are n + m, at every n up to the greatest int; so are moves by Join with nothing behind.
func TestOnAndOn(t *testing.T) {
	for _, s := range []uint32{0, 0xe3069283} {
		for _, n := range lengths() {
			for _, m := range []int{0, 1, 2, 1000, 1 << 31, n, math.MaxInt - n} {
				if n > math.MaxInt-m {
					continue // n + m has no int
				}
				if got, want := sum.Noughts(sum.Noughts(s, n), m), sum.Noughts(s, n+m); got != want {
					t.Fatalf("Noughts(%#x) %d and %d: %#x, want %#x", s, n, m, got, want)
				}
				if n > 0 && m > 0 && sum.Join(sum.Join(s, 0, n), 0, m) != sum.Join(s, 0, n+m) {
					t.Fatalf("Join(%#x) %d and %d", s, n, m)
				}
			}
		}
	}
}

// TestFarOn: P5.1, great n at which the answer is known: a register that is not 0 comes round behind 2^31 - 1 steps, for the polynomial is x + 1 times one of degree 31 whose powers of x are all that there are.
func TestFarOn(t *testing.T) {
	const round = 1<<31 - 1 // of steps; as 8 and it have no factor together, of bytes too
	for _, s := range sums() {
		for _, n := range []int{0, 1, 2, 31, 1000} {
			want := ^movedByHand(^s, n)
			for _, rounds := range []int{1, 2, 3, 1 << 16, 1<<32 - 1} {
				if got := sum.Noughts(s, rounds*round+n); got != want {
					t.Fatalf("Noughts(%#x, %d rounds and %d): %#x, want %#x", s, rounds, n, got, want)
				}
			}
		}
		greatest := math.MaxInt % round
		if got, want := sum.Noughts(s, math.MaxInt), ^movedByHand(^s, greatest); got != want {
			t.Fatalf("Noughts(%#x, MaxInt): %#x, want %#x", s, got, want)
		}
		if got, want := sum.Join(s, 9, math.MaxInt), movedByHand(s, greatest)^9; got != want {
			t.Fatalf("Join(%#x, 9, MaxInt): %#x, want %#x", s, got, want)
		}
	}
}

// flipped answers b with the bits of mask turned from bit at on, the low bit of a byte first.
func flipped(b []byte, at int, mask uint64) []byte {
	b = slices.Clone(b)
	for i := at; i < 8*len(b) && mask != 0; i++ {
		b[i/8] ^= byte(mask&1) << (i % 8)
		mask >>= 1
	}
	return b
}

// TestAnyChange: P5.2, any change within 32 bits side by side changes the sum, at every place of a few rows: one bit, two, all of them, some that are drawn.
func TestAnyChange(t *testing.T) {
	draw := draws(6)
	for _, b := range [][]byte{{0}, {255, 255}, []byte("abc"), noughts(4), ones(9), rising(20), []byte("123456789"), drawn(draw, 40)} {
		whole := sum.Of(b)
		for at := range 8 * len(b) {
			var masks []uint64
			for width := range 32 {
				masks = append(masks, 1<<width, 1<<width|1, 1<<(width+1)-1)
			}
			for range 32 {
				masks = append(masks, uint64(draw())|1, uint64(draw()&draw()&draw())|1)
			}
			for _, m := range masks {
				c := flipped(b, at, m)
				if bytes.Equal(b, c) {
					continue // the change is behind the last bit
				}
				if sum.Of(c) == whole {
					t.Fatalf("%d bytes, bits %#x turned at %d: the sum is the same", len(b), m, at)
				}
			}
		}
	}
}

// TestEachChange: P5.2 for each of the 2^32 - 1 changes at a place. What a change does to a sum is the exclusive or of what its bits do one by one (which TestChangesAddUp holds to); so none leaves it as it is if those of 32 bits side by side don't make one another.
func TestEachChange(t *testing.T) {
	for _, b := range [][]byte{noughts(4), ones(9), []byte("123456789"), rising(70)} {
		whole := sum.Of(b)
		for at := range 8*len(b) - 31 {
			var kept []uint32
			for i := range 32 {
				d := sum.Of(flipped(b, at+i, 1)) ^ whole
				for _, k := range kept {
					d = min(d, d^k)
				}
				if d == 0 {
					t.Fatalf("%d bytes: what bit %d does, bits from %d on do too", len(b), at+i, at)
				}
				kept = append(kept, d)
			}
		}
	}
}

// TestChangesAddUp: what a change does to the sum is the exclusive or of what its bits do, and the same whatever the bytes are.
func TestChangesAddUp(t *testing.T) {
	draw := draws(7)
	for n := 1; n < 60; n++ {
		b, c, d := drawn(draw, n), drawn(draw, n), drawn(draw, n)
		all := make([]byte, n)
		for i := range all {
			all[i] = b[i] ^ c[i] ^ d[i]
		}
		if sum.Of(all) != sum.Of(b)^sum.Of(c)^sum.Of(d) {
			t.Fatalf("%d bytes: the changes don't add up", n)
		}
	}
}

// TestNothingIsChanged: rule 3, bytes that are handed in stay, their spare room too, which isn't read.
func TestNothingIsChanged(t *testing.T) {
	for _, b := range rows() {
		room := slices.Concat(b, []byte("spare"))
		kept := slices.Clone(room)
		if sum.Of(room[:len(b)]) != byHand(b) || sum.More(77, room[:len(b)]) != sum.More(77, slices.Clone(b)) {
			t.Errorf("%d bytes: what is behind them counts", len(b))
		}
		if !bytes.Equal(room, kept) {
			t.Errorf("%d bytes were changed", len(b))
		}
		for i := range room[len(b):] {
			room[len(b)+i] ^= 255
		}
		if sum.Of(room[:len(b)]) != byHand(b) {
			t.Errorf("%d bytes: their spare room counts", len(b))
		}
	}
}

// calls answers calls of each function, by name, that tell whether the answer is right.
func calls() map[string]func() bool {
	return map[string]func() bool{
		"Of":      func() bool { return sum.Of([]byte("123456789")) == 0xe3069283 },
		"More":    func() bool { return sum.More(byHand([]byte("1234")), []byte("56789")) == 0xe3069283 },
		"Join":    func() bool { return sum.Join(byHand([]byte("1234")), byHand([]byte("56789")), 5) == 0xe3069283 },
		"Noughts": func() bool { return sum.Noughts(0, 32) == 0x8a9136aa },
		"OfOne":   func() bool { return sum.Of([]byte("a")) == 0xc1d04330 },
		"OfNone":  func() bool { return sum.Of(nil) == 0 },
	}
}

// TestOneCallFirst is run by TestWhicheverComesFirst in a process of its own: the call that is named comes first there.
func TestOneCallFirst(t *testing.T) {
	first := calls()[os.Getenv("SUM_FIRST")]
	if first == nil {
		t.Skip("TestWhicheverComesFirst runs it")
	}
	if !first() {
		t.Fatal("the first call answers otherwise")
	}
	for name, call := range calls() {
		if !call() {
			t.Errorf("%s answers otherwise behind it", name)
		}
	}
}

// TestWhicheverComesFirst: T6, what is answered does not hang on which call came first.
func TestWhicheverComesFirst(t *testing.T) {
	self, err := os.Executable()
	if err != nil {
		t.Skip(err)
	}
	for name := range calls() {
		cmd := exec.Command(self, "-test.run=^TestOneCallFirst$", "-test.count=1")
		cmd.Env = append(os.Environ(), "SUM_FIRST="+name)
		if out, err := cmd.CombinedOutput(); err != nil {
			t.Errorf("%s first: %v\n%s", name, err, out)
		}
	}
}

// TestAgainAndAgain: T6, nor on how many calls came before, nor on what they were given.
func TestAgainAndAgain(t *testing.T) {
	draw := draws(8)
	for range 500 {
		for name, call := range calls() {
			if !call() {
				t.Fatalf("%s answers otherwise", name)
			}
		}
		sum.Of(drawn(draw, int(draw()%50)))
		sum.More(draw(), drawn(draw, int(draw()%50)))
		sum.Join(draw(), draw(), int(draw())-1<<31)
		sum.Noughts(draw(), int(draw())-1<<31)
	}
}

// TestSideBySide: T6, calls from several goroutines answer the same.
func TestSideBySide(t *testing.T) {
	var wait sync.WaitGroup
	wrong := make([]int, 8)
	for i := range wrong {
		wait.Go(func() {
			for range 200 {
				for _, call := range calls() {
					if !call() {
						wrong[i]++
					}
				}
			}
		})
	}
	wait.Wait()
	if slices.Max(wrong) != 0 {
		t.Error("calls side by side answer otherwise", wrong)
	}
}

// FuzzSums: P5.1 and P5.2 at whatever bytes, cut anywhere, and T6 at whatever sums and n.
func FuzzSums(f *testing.F) {
	f.Add([]byte(nil), 0, uint32(0), uint32(0))
	f.Add([]byte("123456789"), 4, uint32(math.MaxUint32), uint32(1))
	f.Add(noughts(33), math.MaxInt, uint32(1), uint32(math.MaxUint32))
	f.Add(ones(5), math.MinInt, uint32(1<<31), uint32(7))
	f.Fuzz(func(t *testing.T, b []byte, n int, s, u uint32) {
		all := byHand(b)
		at := int(uint(n) % uint(len(b)+1))
		if sum.Of(b) != all || sum.More(sum.Of(b[:at]), b[at:]) != all || sum.Join(sum.Of(b[:at]), sum.Of(b[at:]), len(b)-at) != all {
			t.Errorf("%d bytes cut at %d: the sums are not one", len(b), at)
		}
		if n < 1 && (sum.Join(s, u, n) != s || sum.Noughts(s, n) != s) {
			t.Errorf("n %d changes a sum", n)
		}
		if n > 0 && (sum.Join(s, u, n)^u != sum.Join(s, 0, n) || sum.Noughts(s, n) != ^sum.Join(^s, 0, n)) {
			t.Errorf("n %d: Join and Noughts move otherwise", n)
		}
	})
}
