package frame_test

import (
	"bytes"
	"encoding/binary"
	"hash/crc32"
	"math"
	"slices"
	"testing"

	"wayfinder/api"
	"wayfinder/frame"
)

// sumByHand answers the sum of b by the library's own.
func sumByHand(b []byte) uint32 {
	return crc32.Checksum(b, crc32.MakeTable(crc32.Castagnoli))
}

// numbered answers the number x as 4 bytes, its low byte first.
func numbered(x uint32) []byte {
	return binary.LittleEndian.AppendUint32(nil, x)
}

// framed answers the payload's frame as the section 'Words' tells it; also of one that is too long.
func framed(payload []byte) []byte {
	length := numbered(uint32(len(payload)))
	return slices.Concat(length, numbered(sumByHand(slices.Concat(length, payload))), payload)
}

// oneByHand answers what One should: the errors in their order, then the payload, and how long the frame is.
func oneByHand(b []byte) ([]byte, int, api.Errno) {
	if len(b) < 8 {
		return nil, 0, api.ErrMore
	}
	length := int64(binary.LittleEndian.Uint32(b))
	switch {
	case length > 1<<25:
		return nil, 0, api.ErrLong
	case int64(len(b)) < 8+length:
		return nil, 0, api.ErrMore
	}
	payload := b[8 : 8+length]
	if !bytes.Equal(framed(payload), b[:8+length]) {
		return nil, 0, api.ErrBad
	}
	return payload, 8 + int(length), api.OK
}

// scanByHand answers what Scan should.
func scanByHand(b []byte) ([][]byte, int) {
	var list [][]byte
	end := 0
	for {
		payload, n, err := oneByHand(b[end:])
		if err != api.OK {
			return list, end
		}
		list, end = append(list, payload), end+n
	}
}

// draws answers a function that tells numbers of 32 bits, always the same ones.
func draws(seed uint64) func() uint32 {
	return func() uint32 {
		seed = seed*6364136223846793005 + 1442695040888963407
		return uint32(seed >> 32)
	}
}

// drawn answers n bytes.
func drawn(draw func() uint32, n int) []byte {
	b := make([]byte, n)
	for i := range b {
		b[i] = byte(draw() >> 24)
	}
	return b
}

// payloads answers payloads of several kinds, from none on; one is itself a frame.
func payloads() [][]byte {
	draw := draws(1)
	l := [][]byte{nil, {}, {0}, {255}, {1, 2, 3}, make([]byte, 8), []byte("123456789"), framed([]byte{7}), bytes.Repeat([]byte{255}, 40)}
	for _, n := range []int{1, 2, 3, 4, 5, 7, 8, 9, 31, 32, 33, 255, 256, 257, 1000, 65535, 65536} {
		l = append(l, drawn(draw, n))
	}
	return l
}

// row answers a few payloads, and their frames one behind the other.
func row() ([][]byte, []byte) {
	list := [][]byte{{1, 2, 3}, nil, {9}, framed([]byte{5, 6}), nil, nil, make([]byte, 20), []byte("the last one")}
	return list, rowOf(list)
}

// rowOf answers the payloads' frames one behind the other.
func rowOf(list [][]byte) []byte {
	var b []byte
	for _, payload := range list {
		b = append(b, framed(payload)...)
	}
	return b
}

// sameLists tells whether both have the same payloads, nil being as good as empty.
func sameLists(a, b [][]byte) bool {
	return slices.EqualFunc(a, b, bytes.Equal)
}

// wantOne holds what One answers against what it should, and with an error that there is nothing beside it.
func wantOne(t *testing.T, what string, b, payload []byte, n int, err api.Errno) {
	t.Helper()
	p, m, e := frame.One(b)
	if !bytes.Equal(p, payload) || m != n || e != err {
		t.Errorf("%s: One tells %d bytes, %d, error %d, want %d bytes, %d, error %d", what, len(p), m, e, len(payload), n, err)
	}
}

// wantScan holds what Scan answers against what it should, and All with it.
func wantScan(t *testing.T, what string, b []byte, list [][]byte, n int) {
	t.Helper()
	got, m := frame.Scan(b)
	if !sameLists(got, list) || m != n {
		t.Errorf("%s: Scan tells %d payloads, %d bytes, want %d, %d", what, len(got), m, len(list), n)
	}
	all, err := frame.All(b)
	if n == len(b) && (err != api.OK || !sameLists(all, list)) {
		t.Errorf("%s: All tells %d payloads, error %d, want %d", what, len(all), err, len(list))
	}
	if n < len(b) && (err != api.ErrBad || len(all) != 0) {
		t.Errorf("%s: All tells %d payloads, error %d, want ErrBad", what, len(all), err)
	}
}

// TestExample: the chapter's row, the frame of nothing.
func TestExample(t *testing.T) {
	for _, payload := range [][]byte{nil, {}} {
		b, err := frame.Bytes(payload)
		want := append([]byte{0, 0, 0, 0}, numbered(sumByHand(make([]byte, 4)))...)
		if err != api.OK || !bytes.Equal(b, want) {
			t.Errorf("Bytes of nothing: %v, error %d, want %v", b, err, want)
		}
		// 0x48674bc7 is told of four noughts elsewhere, too.
		if !bytes.Equal(b, []byte{0, 0, 0, 0, 0xc7, 0x4b, 0x67, 0x48}) {
			t.Errorf("Bytes of nothing: %#x", b)
		}
	}
}

// TestBytes: P7.1, the length, the sum of these four bytes and the payload, and the payload.
func TestBytes(t *testing.T) {
	for _, payload := range payloads() {
		b, err := frame.Bytes(payload)
		if err != api.OK || !bytes.Equal(b, framed(payload)) {
			t.Errorf("Bytes of %d: %d bytes, error %d", len(payload), len(b), err)
		}
		wantOne(t, "what Bytes answers", b, payload, len(b), api.OK)
	}
}

// TestLongest: P7.1, a payload of MaxFrame bytes is framed and read, one of a byte more is neither.
func TestLongest(t *testing.T) {
	payload := make([]byte, api.MaxFrame+1)
	payload[0], payload[api.MaxFrame-1] = 1, 2
	b, err := frame.Bytes(payload)
	if err != api.ErrLong || len(b) != 0 {
		t.Errorf("Bytes of MaxFrame + 1: %d bytes, error %d", len(b), err)
	}
	most := payload[:api.MaxFrame]
	b, err = frame.Bytes(most)
	if err != api.OK || !bytes.Equal(b, framed(most)) {
		t.Fatalf("Bytes of MaxFrame: %d bytes, error %d", len(b), err)
	}
	wantOne(t, "MaxFrame", b, most, 8+api.MaxFrame, api.OK)
	wantOne(t, "MaxFrame, less a byte", b[:len(b)-1], nil, 0, api.ErrMore)
	wantScan(t, "MaxFrame and one", append(b, framed([]byte{3})...), [][]byte{most, {3}}, 8+api.MaxFrame+9)
	long := framed(payload)
	wantOne(t, "MaxFrame + 1 with the right sum", long, nil, 0, api.ErrLong)
	wantScan(t, "MaxFrame + 1 with the right sum", long, nil, 0)
}

// TestSize: P7.1, 0 below 0 and above MaxFrame; else as long as the frame is.
func TestSize(t *testing.T) {
	for _, c := range []struct {
		n    int
		want int64
	}{
		{math.MinInt, 0}, {-1 << 32, 0}, {-9, 0}, {-8, 0}, {-2, 0}, {-1, 0},
		{0, 8}, {1, 9}, {3, 11}, {1000, 1008},
		{api.MaxFrame - 1, 1<<25 + 7}, {api.MaxFrame, 1<<25 + 8},
		{api.MaxFrame + 1, 0}, {1 << 31, 0}, {1 << 32, 0}, {math.MaxInt - 8, 0}, {math.MaxInt, 0},
	} {
		if got := frame.Size(c.n); got != c.want {
			t.Errorf("Size(%d): %d, want %d", c.n, got, c.want)
		}
	}
	for _, payload := range payloads() {
		if got := frame.Size(len(payload)); got != int64(len(framed(payload))) {
			t.Errorf("Size(%d): %d", len(payload), got)
		}
	}
}

// TestFewerThanEight: P7.1, ErrMore is told first, whatever the bytes are.
func TestFewerThanEight(t *testing.T) {
	draw := draws(2)
	wantOne(t, "nil", nil, nil, 0, api.ErrMore)
	for n := range 8 {
		for _, b := range [][]byte{framed(nil), framed([]byte{1}), bytes.Repeat([]byte{255}, 8), {1, 0, 0, 2, 0, 0, 0, 0}, drawn(draw, 8)} {
			wantOne(t, "fewer than 8", b[:n], nil, 0, api.ErrMore)
			wantScan(t, "fewer than 8", b[:n], nil, 0)
		}
	}
}

// TestLengthAbove: P7.1, a length above MaxFrame is ErrLong, however many bytes there are and whatever the sum is.
func TestLengthAbove(t *testing.T) {
	for _, length := range []uint32{1<<25 + 1, 1<<25 + 2, 1 << 26, 1<<31 - 8, 1<<31 - 1, 1 << 31, 1<<31 + 3, 1<<31 + 1<<25, math.MaxUint32 - 8, math.MaxUint32 - 7, math.MaxUint32 - 1, math.MaxUint32} {
		for _, s := range []uint32{0, 1, sumByHand(numbered(length)), math.MaxUint32} {
			for _, n := range []int{0, 1, 3, 100} {
				b := slices.Concat(numbered(length), numbered(s), make([]byte, n))
				wantOne(t, "a length above", b, nil, 0, api.ErrLong)
				wantScan(t, "a length above", b, nil, 0)
			}
		}
	}
}

// TestShorter: P7.1, ErrMore of a frame that is not there whole, also if its sum is another one.
func TestShorter(t *testing.T) {
	for _, payload := range [][]byte{{1}, {1, 2, 3}, make([]byte, 8), make([]byte, 300)} {
		for _, turned := range []byte{0, 1, 255} {
			b := framed(payload)
			b[4] ^= turned
			for n := range b {
				wantOne(t, "a frame cut short", b[:n], nil, 0, api.ErrMore)
			}
		}
	}
	for _, length := range []uint32{1, 2, 256, 65536, 1<<25 - 1, 1 << 25} {
		b := slices.Concat(numbered(length), numbered(sumByHand(numbered(length))))
		wantOne(t, "a length alone", b, nil, 0, api.ErrMore)
		wantScan(t, "a length alone", b, nil, 0)
	}
}

// TestAnotherSum: P7.1, ErrBad, if the sum is not that of the four bytes of the length and the payload.
func TestAnotherSum(t *testing.T) {
	for _, payload := range payloads() {
		right := framed(payload)
		s := binary.LittleEndian.Uint32(right[4:])
		length := right[:4]
		for what, other := range map[string]uint32{
			"none":                  0,
			"all ones":              math.MaxUint32,
			"one more":              s + 1,
			"turned":                ^s,
			"its high byte first":   binary.BigEndian.Uint32(right[4:]),
			"of the payload alone":  sumByHand(payload),
			"of the length alone":   sumByHand(length),
			"of the length behind":  sumByHand(slices.Concat(payload, length)),
			"with its place as 0":   sumByHand(slices.Concat(length, make([]byte, 4), payload)),
			"of the length in 8":    sumByHand(slices.Concat(length, make([]byte, 4))),
			"by another polynomial": crc32.ChecksumIEEE(slices.Concat(length, payload)),
		} {
			if other == s {
				continue // of nothing, say, the length's own sum is the frame's
			}
			b := slices.Concat(length, numbered(other), payload)
			wantOne(t, "a sum "+what, b, nil, 0, api.ErrBad)
			wantScan(t, "a sum "+what, b, nil, 0)
		}
	}
}

// TestBytesBehind: P7.1, One tells the first frame whatever stands behind it.
func TestBytesBehind(t *testing.T) {
	draw := draws(3)
	for _, payload := range payloads() {
		b := framed(payload)
		for _, more := range [][]byte{{0}, {255}, framed(nil), framed([]byte{4, 5}), b[:len(b)-1], drawn(draw, 100)} {
			wantOne(t, "bytes behind", slices.Concat(b, more), payload, len(b), api.OK)
		}
	}
}

// TestScanOfNothing: P7.2, no frames are frames alone.
func TestScanOfNothing(t *testing.T) {
	wantScan(t, "nil", nil, nil, 0)
	wantScan(t, "no bytes", []byte{}, nil, 0)
}

// TestEmptyPayloads: P7.2, a frame without a payload is one like any other.
func TestEmptyPayloads(t *testing.T) {
	for n := range 20 {
		wantScan(t, "empty ones", bytes.Repeat(framed(nil), n), make([][]byte, n), 8*n)
	}
	wantScan(t, "an empty one between", rowOf([][]byte{{1}, nil, {2}}), [][]byte{{1}, nil, {2}}, 26)
	// Noughts are no frames: the sum of four of them is not 0.
	wantScan(t, "noughts", make([]byte, 64), nil, 0)
}

// TestRows: P7.2 and P7.3, frames one behind the other are read as their payloads.
func TestRows(t *testing.T) {
	list, b := row()
	wantScan(t, "a row", b, list, len(b))
	for n := range list {
		wantScan(t, "the first ones", rowOf(list[:n]), list[:n], len(rowOf(list[:n])))
		wantScan(t, "the last ones", rowOf(list[n:]), list[n:], len(rowOf(list[n:])))
	}
	wantScan(t, "all kinds", rowOf(payloads()), payloads(), len(rowOf(payloads())))
	var put []byte
	for _, payload := range list {
		one, err := frame.Bytes(payload)
		if err != api.OK {
			t.Fatal("Bytes", err)
		}
		put = append(put, one...)
	}
	wantScan(t, "what Bytes answers", put, list, len(put))
}

// TestCutAnywhere: P7.3, cut at every place they are the first ones, as far as they are whole.
func TestCutAnywhere(t *testing.T) {
	list, b := row()
	whole, end := 0, 0
	for n := range len(b) + 1 {
		if whole < len(list) && n == end+8+len(list[whole]) {
			whole, end = whole+1, n
		}
		wantScan(t, "cut", b[:n], list[:whole], end)
	}
	if whole != len(list) {
		t.Errorf("%d of %d frames were seen whole", whole, len(list))
	}
}

// TestNoFrameBehind: P7.2, it ends at the first that is none, whatever that is; frames behind that are not told.
func TestNoFrameBehind(t *testing.T) {
	list, b := row()
	bad := framed([]byte{1, 2})
	bad[9] ^= 128
	for what, more := range map[string][]byte{
		"a nought":          {0},
		"one byte":          {255},
		"seven bytes":       make([]byte, 7),
		"noughts":           make([]byte, 100),
		"a frame less one":  framed(nil)[:7],
		"a length above":    {1, 0, 0, 2, 0, 0, 0, 0},
		"a high bit":        {0, 0, 0, 128, 0, 0, 0, 0},
		"a length that has": {3, 0, 0, 0, 0, 0, 0, 0, 1, 2},
		"another sum":       bad,
	} {
		for n := range len(list) + 1 {
			first := rowOf(list[:n])
			wantScan(t, what, slices.Concat(first, more), list[:n], len(first))
		}
		// A frame that is not whole would be filled up by those behind it, and have another sum.
		wantScan(t, what+", with frames behind", slices.Concat(b, more, b), list, len(b))
	}
}

// flipped answers b with the bits of mask turned from bit at on, the low bit of a byte first, and no bit at end or behind it.
func flipped(b []byte, at, end int, mask uint32) []byte {
	b = slices.Clone(b)
	for i := at; i < end && mask != 0; i++ {
		b[i/8] ^= byte(mask&1) << (i % 8)
		mask >>= 1
	}
	return b
}

// masks answers changes of 32 bits or fewer, each from its first bit on.
func masks(draw func() uint32) []uint32 {
	l := []uint32{math.MaxUint32}
	for width := range 32 {
		l = append(l, 1<<width|1, 1<<width-1|1)
	}
	for range 16 {
		l = append(l, draw()|1, draw()&draw()&draw()|1)
	}
	return l
}

// TestChangedPayload: P7.3, a frame of which bits within 32 side by side of its payload are changed is none, and ends what is scanned.
func TestChangedPayload(t *testing.T) {
	draw := draws(4)
	first, last := framed([]byte{8, 8}), framed([]byte{9})
	for _, payload := range [][]byte{{0}, {255, 1}, {1, 2, 3}, make([]byte, 4), []byte("123456789"), framed([]byte{7}), drawn(draw, 40)} {
		b := framed(payload)
		for at := 64; at < 8*len(b); at++ {
			for _, mask := range masks(draw) {
				changed := flipped(b, at, 8*len(b), mask)
				wantOne(t, "a payload that is changed", changed, nil, 0, api.ErrBad)
				wantScan(t, "a payload that is changed", slices.Concat(first, changed, last), [][]byte{{8, 8}}, len(first))
			}
		}
	}
}

// TestChangedAnyhow: P7.3 for each of the 2^32 - 1 changes at a place. What a change does to a sum is the exclusive or of what its bits do one by one; so none leaves it as it is if those of 32 bits side by side don't make one another.
func TestChangedAnyhow(t *testing.T) {
	for _, payload := range [][]byte{make([]byte, 4), []byte("123456789"), bytes.Repeat([]byte{255}, 50)} {
		b, err := frame.Bytes(payload)
		if err != api.OK {
			t.Fatal("Bytes", err)
		}
		for at := 64; at+32 <= 8*len(b); at++ {
			var kept []uint32
			for i := range 32 {
				c, _ := frame.Bytes(flipped(b, at+i, 8*len(b), 1)[8:])
				d := binary.LittleEndian.Uint32(c[4:]) ^ binary.LittleEndian.Uint32(b[4:])
				for _, k := range kept {
					d = min(d, d^k)
				}
				if d == 0 {
					t.Fatalf("%d bytes: what bit %d does, bits from %d on do too", len(payload), at+i, at)
				}
				kept = append(kept, d)
			}
		}
	}
}

// TestChangedSum: P7.3, neither is one of whose sum any bits are changed: each alone, each two, and many more.
func TestChangedSum(t *testing.T) {
	draw := draws(5)
	all := []uint32{math.MaxUint32}
	for i := range 32 {
		for k := range i + 1 {
			all = append(all, 1<<i|1<<k)
		}
		all = append(all, ^uint32(1<<i), math.MaxUint32>>i, math.MaxUint32<<i)
	}
	for range 2000 {
		all = append(all, draw()|1<<(draw()%32))
	}
	for _, payload := range [][]byte{nil, {0}, {1, 2, 3}, []byte("123456789"), drawn(draw, 40)} {
		b := framed(payload)
		for _, mask := range all {
			changed := flipped(b, 32, 64, mask)
			wantOne(t, "a sum that is changed", changed, nil, 0, api.ErrBad)
			wantScan(t, "a sum that is changed", slices.Concat(b, changed, b), [][]byte{payload}, len(b))
		}
	}
}

// fill writes over all that a list reaches, its spare room too.
func fill(b []byte, with byte) {
	b = b[:cap(b)]
	for i := range b {
		b[i] = with
	}
}

// roomy answers b with spare room that holds what is behind it.
func roomy(b, behind []byte) []byte {
	return slices.Concat(b, behind)[:len(b)]
}

// TestSpareRoomIsNotRead: rule 3, what stands behind the end of what is handed in counts for nothing.
func TestSpareRoomIsNotRead(t *testing.T) {
	list, b := row()
	for n := range b {
		p, m, err := frame.One(roomy(b[:n], b[n:]))
		q, k, want := oneByHand(b[:n])
		if !bytes.Equal(p, q) || m != k || err != want {
			t.Fatalf("One of %d bytes and spare room: %v, %d, error %d", n, p, m, err)
		}
		told, end := scanByHand(b[:n])
		wantScan(t, "spare room", roomy(b[:n], b[n:]), told, end)
	}
	for _, payload := range list {
		got, err := frame.Bytes(roomy(payload, []byte("spare")))
		if err != api.OK || !bytes.Equal(got, framed(payload)) {
			t.Errorf("Bytes of %v and spare room: %v, error %d", payload, got, err)
		}
	}
}

// TestNothingIsChanged: rule 3, what is handed in stays as it is, its spare room too.
func TestNothingIsChanged(t *testing.T) {
	_, b := row()
	for _, c := range [][]byte{b, b[:len(b)-1], b[:9], nil, framed(make([]byte, 30)), append([]byte{1, 0, 0, 2}, make([]byte, 9)...)} {
		in := roomy(c, []byte("spare"))
		kept := bytes.Clone(in[:cap(in)])
		frame.Bytes(in)
		frame.One(in)
		frame.Scan(in)
		frame.All(in)
		if !bytes.Equal(in[:cap(in)], kept) {
			t.Errorf("%d bytes were changed", len(c))
		}
	}
}

// TestAnswersAreTheirOwn: rule 3, whoever changes what was handed in changes no answer, and the other way round.
func TestAnswersAreTheirOwn(t *testing.T) {
	list, b := row()
	for _, payload := range list {
		in := roomy(payload, []byte("spare"))
		got, _ := frame.Bytes(in)
		again, _ := frame.Bytes(in)
		fill(in, 77)
		if !bytes.Equal(got, framed(payload)) {
			t.Error("Bytes' answer hangs on what was handed in")
		}
		fill(got, 88)
		if !bytes.Equal(again, framed(payload)) || slices.Contains(in[:cap(in)], 88) {
			t.Error("Bytes' answer is somebody else's")
		}
	}
	in := roomy(b, []byte("spare"))
	one, _, _ := frame.One(in)
	told, _ := frame.Scan(in)
	all, _ := frame.All(in)
	fill(in, 77)
	if !bytes.Equal(one, list[0]) || !sameLists(told, list) || !sameLists(all, list) {
		t.Error("payloads hang on what was handed in")
	}
	for _, payload := range slices.Concat([][]byte{one}, told, all) {
		fill(payload, 88)
	}
	if slices.Contains(in[:cap(in)], 88) {
		t.Error("payloads are pieces of what was handed in")
	}
}

// asked answers calls that tell payloads of b, by name.
func asked(b []byte) map[string]func() [][]byte {
	return map[string]func() [][]byte{
		"One":  func() [][]byte { p, _, _ := frame.One(b); return [][]byte{p} },
		"Scan": func() [][]byte { l, _ := frame.Scan(b); return l },
		"All":  func() [][]byte { l, _ := frame.All(b); return l },
	}
}

// TestPayloadsShareNothing: rule 3, whoever changes a payload or appends to it changes no other one, nor what was handed in.
func TestPayloadsShareNothing(t *testing.T) {
	list, b := row()
	kept := bytes.Clone(b)
	for name, call := range asked(b) {
		for i := range call() {
			got, other := call(), call()
			_ = append(got[i], 88, 88, 88, 88, 88, 88, 88, 88)
			fill(got[i], 88)
			for k := range got {
				if k != i && !bytes.Equal(got[k], list[k]) {
					t.Errorf("%s: payload %d is changed by payload %d", name, k, i)
				}
			}
			if !bytes.Equal(b, kept) || !sameLists(other, list[:len(other)]) {
				t.Errorf("%s: what is done to payload %d is seen elsewhere", name, i)
			}
		}
	}
}

// TestListsShareNothing: rule 3, nor does whoever changes the list itself, or appends to it.
func TestListsShareNothing(t *testing.T) {
	list, b := row()
	for name, call := range asked(b) {
		got, other := call(), call()
		got = append(got, []byte{88})
		clear(got[:cap(got)])
		if !sameLists(other, list[:len(other)]) {
			t.Errorf("%s: two answers are one list", name)
		}
	}
}

// TestAgain: T6, what is answered hangs on the arguments alone, not on the calls ahead.
func TestAgain(t *testing.T) {
	list, b := row()
	for range 50 {
		wantScan(t, "again", b, list, len(b))
		wantScan(t, "cut, again", b[:len(b)-1], list[:len(list)-1], len(rowOf(list[:len(list)-1])))
		wantOne(t, "again", b, list[0], 11, api.OK)
		wantOne(t, "none, again", b[1:], nil, 0, oneError(b[1:]))
	}
}

// oneError answers the error that One should.
func oneError(b []byte) api.Errno {
	_, _, err := oneByHand(b)
	return err
}

// FuzzFrames: P7.1 to P7.3 and T6 at whatever bytes.
func FuzzFrames(f *testing.F) {
	_, b := row()
	f.Add([]byte(nil), uint(0))
	f.Add(b, uint(30))
	f.Add(b[3:], uint(9))
	f.Add([]byte{1, 0, 0, 2, 0, 0, 0, 0}, uint(1))
	f.Add(bytes.Repeat([]byte{255}, 9), uint(8))
	f.Fuzz(func(t *testing.T, b []byte, at uint) {
		payload, n, err := oneByHand(b)
		wantOne(t, "One", b, payload, n, err)
		list, end := scanByHand(b)
		wantScan(t, "Scan", b, list, end)
		cut := int(at % uint(len(b)+1))
		whole := slices.Concat(framed(b[:cut]), framed(b[cut:]))
		wantScan(t, "two frames", whole, [][]byte{b[:cut], b[cut:]}, len(whole))
		list, end = scanByHand(whole[:cut])
		wantScan(t, "two frames, cut", whole[:cut], list, end)
	})
}
