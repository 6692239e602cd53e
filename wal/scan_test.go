package wal_test

import (
	"bytes"
	"fmt"
	"math"
	"slices"
	"testing"

	"wayfinder/wal"
)

// TestScanOfNothing: P8.1, of nothing no records, and no bytes.
func TestScanOfNothing(t *testing.T) {
	wantScan(t, "nil", nil, nil, 0)
	wantScan(t, "no bytes", []byte{}, nil, 0)
}

// TestScan: P8.1, records of all kinds of bodies, as many as there are, and how many bytes their frames have.
func TestScan(t *testing.T) {
	for n := range len(some()) + 1 {
		recs := from(1, some()[:n]...)
		b := bytesOf(recs)
		wantScan(t, fmt.Sprint(n, " records"), b, recs, len(b))
	}
	recs := from(1, make([][]byte, 300)...)
	wantScan(t, "records without bodies", bytesOf(recs), recs, 300*16)
}

// TestScanFirstSeq: P8.1, the first Seq is any from 1 to 2^62, and of none else there is a record.
func TestScanFirstSeq(t *testing.T) {
	for _, seq := range []uint64{1, 2, 77, 255, 256, 1 << 32, 1<<61 + 5, last - 3} {
		recs := from(seq, []byte{1}, nil, []byte{2, 3})
		wantScan(t, fmt.Sprint("from ", seq), bytesOf(recs), recs, 17+16+18)
	}
	wantScan(t, "2^62", bytesOf(from(last, []byte{1})), from(last, []byte{1}), 17)
	for _, seq := range []uint64{0, last + 1, last + 2, last * 2, last*2 + 1, last * 3, math.MaxUint64} {
		wantScan(t, fmt.Sprint("of ", seq), bytesOf(from(seq, []byte{1})), nil, 0)
		wantScan(t, fmt.Sprint("from ", seq), bytesOf(from(seq, []byte{1}, []byte{2}, nil)), nil, 0)
	}
}

// TestScanLastSeq: P8.1, nothing is behind a record of Seq 2^62.
func TestScanLastSeq(t *testing.T) {
	b := bytesOf(from(last-1, []byte{1}, nil, []byte{2}, []byte{3}))
	wantScan(t, "up to 2^62", b, from(last-1, []byte{1}, nil), 33)
	for _, seq := range []uint64{0, 1, last, last + 1} {
		b := append(bytesOf(from(last, nil)), bytesOf(from(seq, nil))...)
		wantScan(t, fmt.Sprint(seq, " behind 2^62"), b, from(last, nil), 16)
	}
}

// TestScanShortPayload: P8.1, a frame whose payload has fewer than 8 bytes is no record, and ends what is told.
func TestScanShortPayload(t *testing.T) {
	recs := from(3, some()...)
	for n := range 8 {
		// Read as a number, the payload would be the next Seq.
		for i := range len(recs) + 1 {
			first := bytesOf(recs[:i])
			short := framed(numbered(3+uint64(i), nil)[:n])
			what := fmt.Sprint("a payload of ", n, " bytes at ", i)
			wantScan(t, what, slices.Concat(first, short), recs[:i], len(first))
			wantScan(t, what, slices.Concat(first, short, bytesOf(recs[i:])), recs[:i], len(first))
		}
	}
	wantScan(t, "a payload of 8 bytes", framed(numbered(3, nil)), from(3, nil), 16)
}

// TestScanAnotherSeq: P8.1, a Seq that is not one more than the one ahead ends what is told.
func TestScanAnotherSeq(t *testing.T) {
	const first = 10
	recs := from(first, some()...)
	for i := 1; i < len(recs); i++ {
		ahead := bytesOf(recs[:i])
		next := recs[i].Seq
		for what, seq := range map[string]uint64{
			"the same again": next - 1,
			"one left out":   next + 1,
			"one less":       next - 2,
			"the first":      first,
			"one":            1,
			"none":           0,
			"far more":       next + 1<<32,
			"the last":       last,
			"behind it":      last + 1,
			"a high bit":     next + 1<<63,
			"all bits":       math.MaxUint64,
		} {
			what = fmt.Sprint(what, " at ", i)
			b := append(bytes.Clone(ahead), bytesOf(from(seq, []byte{1}))...)
			wantScan(t, what, b, recs[:i], len(ahead))
			wantScan(t, what+", and on", slices.Concat(ahead, bytesOf(from(seq, some()...))), recs[:i], len(ahead))
			wantScan(t, what+", between", slices.Concat(b, bytesOf(recs[i:])), recs[:i], len(ahead))
		}
	}
}

// TestScanCutAnywhere: P8.1, cut at every place the records are the first ones, as far as they are whole.
func TestScanCutAnywhere(t *testing.T) {
	recs := from(7, some()...)
	b := bytesOf(recs)
	seen, end := 0, 0
	for n := range len(b) + 1 {
		if seen < len(recs) && n == end+16+len(recs[seen].Body) {
			seen, end = seen+1, n
		}
		wantScan(t, fmt.Sprint("cut to ", n), b[:n], recs[:seen], end)
	}
	if seen != len(recs) {
		t.Errorf("%d of %d records were seen whole", seen, len(recs))
	}
}

// junk answers bytes by name that are no frame, whatever stands behind.
func junk() map[string][]byte {
	turned := framed(numbered(8, []byte{1, 2}))
	turned[17] ^= 1
	return map[string][]byte{
		"one byte":      {255},
		"a nought":      {0},
		"seven bytes":   make([]byte, 7),
		"noughts":       make([]byte, 40),
		"all ones":      bytes.Repeat([]byte{255}, 40),
		"too long":      {1, 0, 0, 2, 0, 0, 0, 0},
		"a torn frame":  framed(numbered(8, []byte{1, 2}))[:17],
		"another sum":   turned,
		"a length only": {9, 0, 0, 0},
	}
}

// TestScanBytesBehind: P8.1, bytes behind that are no frame are not counted, nor records behind those.
func TestScanBytesBehind(t *testing.T) {
	recs := from(1, some()...)
	for what, more := range junk() {
		for i := range len(recs) + 1 {
			ahead := bytesOf(recs[:i])
			wantScan(t, what, slices.Concat(ahead, more), recs[:i], len(ahead))
			wantScan(t, what+", and records", slices.Concat(ahead, more, bytesOf(recs[i:])), recs[:i], len(ahead))
		}
	}
}

// TestScanChanged: P8.1, a record of which one bit is changed is none: those ahead of it are told.
func TestScanChanged(t *testing.T) {
	recs := from(1, []byte{1, 2, 3}, nil, []byte{4})
	b := bytesOf(recs)
	for i := range 8 * len(b) {
		changed := bytes.Clone(b)
		changed[i/8] ^= 1 << (i % 8)
		kept := 0
		for end := 0; end+16+len(recs[kept].Body) <= i/8; kept++ {
			end += 16 + len(recs[kept].Body)
		}
		wantScan(t, fmt.Sprint("bit ", i), changed, recs[:kept], len(bytesOf(recs[:kept])))
	}
}

// TestScanMemory: rule 3, whoever changes what was handed in or one thing of an answer changes nothing else; spare room is not read.
func TestScanMemory(t *testing.T) {
	recs := from(1, some()...)
	b := bytesOf(recs)
	for n := range b {
		// What was cut off stands in the spare room.
		told, end := scanByHand(b[:n:n])
		wantScan(t, "spare room", b[:n], told, end)
	}
	in := slices.Concat(b, []byte("spare"))[:len(b)]
	kept := bytes.Clone(in[:cap(in)])
	for i := range recs {
		got, _ := wal.Scan(in)
		other, _ := wal.Scan(in)
		_ = append(got[i].Body, 88, 88, 88, 88, 88, 88, 88, 88)
		fill(got[i].Body, 88)
		got[i].Body = recs[i].Body
		if !sameRecs(got, recs) || !sameRecs(other, recs) || !bytes.Equal(in[:cap(in)], kept) {
			t.Errorf("what is done to body %d is seen elsewhere", i)
		}
		clear(got[:cap(got)])
		if !sameRecs(other, recs) {
			t.Error("two answers are one list")
		}
	}
	got, _ := wal.Scan(in)
	fill(in, 77)
	if !sameRecs(got, recs) {
		t.Error("what Scan answers hangs on what was handed in")
	}
}

// fill writes over all that a list reaches, its spare room too.
func fill(b []byte, with byte) {
	b = b[:cap(b)]
	for i := range b {
		b[i] = with
	}
}

// TestCost: P8.1, 16 bytes and the body; 0 of a body that may not be.
func TestCost(t *testing.T) {
	for _, c := range []struct {
		n    int
		want int64
	}{
		{math.MinInt, 0}, {-1 << 32, 0}, {-17, 0}, {-16, 0}, {-9, 0}, {-8, 0}, {-7, 0}, {-2, 0}, {-1, 0},
		{0, 16}, {1, 17}, {2, 18}, {9, 25}, {1000, 1016},
		{1<<25 - 9, 1<<25 + 7}, {1<<25 - 8, 1<<25 + 8},
		{1<<25 - 7, 0}, {1 << 25, 0}, {1<<25 + 1, 0}, {1 << 32, 0}, {1<<32 + 1, 0}, {math.MaxInt - 8, 0}, {math.MaxInt - 7, 0}, {math.MaxInt, 0},
	} {
		if got := wal.Cost(c.n); got != c.want {
			t.Errorf("Cost(%d): %d, want %d", c.n, got, c.want)
		}
	}
	for _, body := range some() {
		if got := wal.Cost(len(body)); got != int64(len(bytesOf(from(1, body)))) {
			t.Errorf("Cost(%d): %d", len(body), got)
		}
	}
}

// FuzzScan: P8.1 and T6 at whatever bytes.
func FuzzScan(f *testing.F) {
	b := bytesOf(from(1, some()...))
	f.Add([]byte(nil), uint64(1), uint(0))
	f.Add(b, last, uint(30))
	f.Add(b[:40], uint64(0), uint(9))
	f.Add(b[3:], last-1, uint(1))
	f.Add(make([]byte, 20), uint64(math.MaxUint64), uint(8))
	f.Fuzz(func(t *testing.T, b []byte, seq uint64, at uint) {
		recs, end := scanByHand(b)
		wantScan(t, "bytes", b, recs, end)
		cut := int(at % uint(len(b)+1))
		row := bytesOf(from(seq, b[:cut], b[cut:], nil))
		recs, end = scanByHand(row)
		wantScan(t, "a row", row, recs, end)
		row = slices.Concat(row, framed(b[:cut]), b)
		recs, end = scanByHand(row)
		wantScan(t, "a row and more", row, recs, end)
	})
}
