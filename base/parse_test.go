package base_test

import (
	"bytes"
	"encoding/binary"
	"fmt"
	"math"
	"slices"
	"testing"

	"wayfinder/api"
	"wayfinder/base"
)

// TestParseCut: P10.1, bytes that are cut anywhere are no base's.
func TestParseCut(t *testing.T) {
	wantParse(t, "no bytes", nil, api.Base{}, false)
	wantParse(t, "no bytes", []byte{}, api.Base{}, false)
	for what, b := range some() {
		x := bytesOf(b)
		for n := range x {
			wantParse(t, fmt.Sprint(what, " cut at ", n), x[:n], api.Base{}, false)
			wantParse(t, fmt.Sprint(what, " from ", n+1), x[n+1:], api.Base{}, false)
		}
	}
}

// TestParseMore: P10.1, nothing stands behind a base.
func TestParseMore(t *testing.T) {
	for what, b := range some() {
		x := bytesOf(b)
		for _, more := range [][]byte{{0}, {1}, make([]byte, 8), rising(30), framed(nil), framed([]byte{2}), framed(pointOf(api.Point{ID: math.MaxInt64, Vec: make([]int16, b.Config.Dim)})), x} {
			wantParse(t, what+" with more behind", slices.Concat(x, more), api.Base{}, false)
			wantParse(t, what+" with more ahead", slices.Concat(more, x), api.Base{}, false)
		}
	}
}

// TestParseByteChanged: P10.1, no byte may be another one, for each has a sum over it.
func TestParseByteChanged(t *testing.T) {
	for _, what := range []string{"nothing", "the least", "both"} {
		x := bytesOf(some()[what])
		for i := range x {
			for by := 1; by < 256; by++ {
				x[i] ^= byte(by)
				wantParse(t, fmt.Sprint(what, ": byte ", i, " changed by ", by), x, api.Base{}, false)
				x[i] ^= byte(by)
			}
		}
		wantParse(t, what, x, some()[what], true)
	}
}

// TestParsePayloadChanged: P10.1, of each byte of the payloads, whatever it is made, with sums that are right: Parse tells a base just where one may be, and what it tells has these bytes.
func TestParsePayloadChanged(t *testing.T) {
	for what, b := range some() {
		payloads := payloadsOf(b)
		for i, p := range payloads {
			for j, c := range p {
				for x := range 256 {
					p[j] = byte(x)
					is, ok := parsedByHand(payloads)
					wantParse(t, fmt.Sprint(what, ": byte ", j, " of payload ", i, " is ", x), joined(payloads), is, ok)
				}
				p[j] = c
			}
		}
	}
}

// TestParseFieldChanged: P10.1, of each number of the head, whatever it is made, likewise.
func TestParseFieldChanged(t *testing.T) {
	numbers := []uint64{0, 1, 2, 3, 4, 5, 63, 64, 65, 255, 256, 257, 1023, 1024, 1025, 4095, 4096, 4097, 1<<16 + 2, 1<<24 - 1, 1 << 24, 1<<24 + 1, 1 << 31, 1<<32 - 1, 1 << 40, 1<<40 + 1, 1 << 62, 1<<62 + 1, 1 << 63, 1<<63 + 1<<40, math.MaxUint64}
	fields := []struct{ at, size int }{{1, 8}, {9, 4}, {13, 4}, {17, 4}, {21, 4}, {25, 4}, {29, 4}, {33, 4}, {37, 8}, {45, 4}, {49, 1}}
	good := 0
	for what, b := range some() {
		for _, f := range fields {
			for _, n := range numbers {
				payloads := payloadsOf(b)
				copy(payloads[0][f.at:f.at+f.size], binary.LittleEndian.AppendUint64(nil, n))
				is, ok := parsedByHand(payloads)
				wantParse(t, fmt.Sprint(what, ": ", n, " at ", f.at), joined(payloads), is, ok)
				if ok {
					good++
				}
			}
		}
	}
	if good < 100 {
		t.Errorf("only %d of them may be", good)
	}
}

// TestParseHead: P10.1, the first payload is a head, no shorter and no longer, and says 1, and of the index 0 or 1.
func TestParseHead(t *testing.T) {
	for what, b := range some() {
		payloads := payloadsOf(b)
		head := payloads[0]
		for n := range head {
			payloads[0] = head[:n]
			wantParse(t, fmt.Sprint(what, " with a head of ", n), joined(payloads), api.Base{}, false)
		}
		for _, more := range [][]byte{{0}, {1}, make([]byte, 50)} {
			payloads[0] = slices.Concat(head, more)
			wantParse(t, what+" with a longer head", joined(payloads), api.Base{}, false)
		}
		wantParse(t, what+" without a head", joined(payloads[1:]), api.Base{}, false)
		payloads[0] = head
		wantParse(t, what+" with two heads", joined(slices.Insert(payloads, 0, head)), api.Base{}, false)
		wantParse(t, what, joined(payloadsOf(b)), b, true)
	}
}

// TestParseIndex: P10.1, an index stands there just where the head says so, behind a 2, and is not one of no bytes.
func TestParseIndex(t *testing.T) {
	for what, b := range some() {
		payloads := payloadsOf(b)
		index := slices.Concat([]byte{2}, rising(indexByHand(b.Config)))
		if len(b.Index) == 0 {
			wantParse(t, what+" with an index that the head does not tell", joined(slices.Insert(slices.Clone(payloads), 1, index)), api.Base{}, false)
			payloads[0][49] = 1
			wantParse(t, what+" without an index that the head tells", joined(payloads), api.Base{}, false)
			is := b
			is.Index = index[1:]
			wantParse(t, what+" with an index", joined(slices.Insert(slices.Clone(payloads), 1, index)), is, true)
			payloads = slices.Insert(payloads, 1, index)
		}
		for n := range index {
			payloads[1] = index[:n]
			wantParse(t, fmt.Sprint(what, " with an index of ", n-1), joined(payloads), api.Base{}, false)
		}
		payloads[1] = append(slices.Clone(index), 0)
		wantParse(t, what+" with a longer index", joined(payloads), api.Base{}, false)
		payloads[1] = index
		if n := len(payloads); n > 2 {
			payloads[1], payloads[n-1] = payloads[n-1], payloads[1]
			wantParse(t, what+" with the index last", joined(payloads), api.Base{}, false)
			payloads[1], payloads[n-1] = payloads[n-1], payloads[1]
		}
		wantParse(t, what+" with two indexes", joined(slices.Insert(slices.Clone(payloads), 1, index)), api.Base{}, false)
		// As many payloads as the head tells, but the index is in the place of a point.
		payloads[0][45]++
		wantParse(t, what+" with two indexes and a point more", joined(slices.Insert(slices.Clone(payloads), 1, index)), api.Base{}, false)
	}
}

// TestParsePoints: P10.1, as many points as the head tells, each with an ID and a vector, in their order.
func TestParsePoints(t *testing.T) {
	b := some()["all there may"]
	payloads := payloadsOf(b)
	for i := 2; i < len(payloads); i++ {
		p := payloads[i]
		for n := range p {
			payloads[i] = p[:n]
			wantParse(t, fmt.Sprint("a point of ", n), joined(payloads), api.Base{}, false)
		}
		for n := 1; n < 9; n++ {
			payloads[i] = slices.Concat(p, make([]byte, n))
			wantParse(t, fmt.Sprint("a point of ", n, " more"), joined(payloads), api.Base{}, false)
		}
		for _, n := range []int{2 * 1023, 2*1024 - 2, 2*1024 - 1, 2 * 1024, 1 << 20} {
			payloads[i] = slices.Concat(p, make([]byte, n))
			wantParse(t, fmt.Sprint("a point of ", n, " more"), joined(payloads), api.Base{}, false)
		}
		payloads[i] = p
		wantParse(t, "one missing", joined(slices.Delete(slices.Clone(payloads), i, i+1)), api.Base{}, false)
		wantParse(t, "one twice", joined(slices.Insert(slices.Clone(payloads), i, p)), api.Base{}, false)
		if i > 2 {
			payloads[i-1], payloads[i] = p, payloads[i-1]
			wantParse(t, "two turned round", joined(payloads), api.Base{}, false)
			payloads[i-1], payloads[i] = payloads[i], p
		}
		for _, id := range []uint64{0, 1 << 63, math.MaxUint64} {
			point := slices.Clone(p)
			binary.LittleEndian.PutUint64(point, id)
			payloads[i] = point
			wantParse(t, fmt.Sprint("the ID ", id), joined(payloads), api.Base{}, false)
		}
		payloads[i] = p
	}
	wantParse(t, "all there may", joined(payloads), b, true)
	// One more than Room, of which the head tells.
	more := cloned(b)
	more.Points = append(more.Points, api.Point{ID: 1 << 40, Vec: []int16{1, 2}})
	wantParse(t, "a point above Room", bytesOf(more), api.Base{}, false)
	more.Config.Room, more.Config.Size = 6, 1000
	wantParse(t, "a greater Room", bytesOf(more), more, true)
}

// TestParseFrames: P10.1, whatever row of payloads there is, Parse tells a base just where one may be.
func TestParseFrames(t *testing.T) {
	draw := draws(10)
	all := [][]byte{nil, {1}, {2}, {2, 2}}
	for _, b := range some() {
		all = append(all, payloadsOf(b)...)
	}
	slices.SortFunc(all, bytes.Compare) // a map tells its bases in any order
	for range 20000 {
		var payloads [][]byte
		for range draw(5) {
			payloads = append(payloads, all[draw(len(all))])
		}
		is, ok := parsedByHand(payloads)
		wantParse(t, "a drawn row", joined(payloads), is, ok)
	}
}

// TestParseAny: T6, whatever bytes there are, Parse answers; what it tells as a base has just these bytes.
func TestParseAny(t *testing.T) {
	draw := draws(11)
	x := bytesOf(some()["all there may"])
	for range 20000 {
		b := slices.Clone(x[:draw(len(x)+1)])
		for range draw(4) {
			if len(b) > 0 {
				b[draw(len(b))] = byte(draw(256))
			}
		}
		got, err := base.Parse(b)
		if back, _ := base.Bytes(got); err == api.OK && !bytes.Equal(back, b) || err != api.OK && (err != api.ErrBad || !sameByHand(got, api.Base{})) {
			t.Fatalf("Parse of %v: %v, error %d", b, got, err)
		}
	}
	// A length that is told, and not there.
	for _, n := range []uint32{49, 50, 51, 1 << 25, 1<<25 + 1, math.MaxUint32} {
		b := slices.Clone(x)
		binary.LittleEndian.PutUint32(b, n)
		if n != 50 {
			wantParse(t, fmt.Sprint("a head's length of ", n), b, api.Base{}, false)
		}
	}
}
