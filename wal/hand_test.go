package wal_test

import (
	"bytes"
	"encoding/binary"
	"hash/crc32"
	"slices"
	"testing"

	"wayfinder/api"
	"wayfinder/disk"
	"wayfinder/wal"
)

// last is the greatest Seq.
const last = uint64(1) << 62

// framed answers the payload's frame as chapter 7 tells it.
func framed(payload []byte) []byte {
	length := binary.LittleEndian.AppendUint32(nil, uint32(len(payload)))
	sum := crc32.Checksum(slices.Concat(length, payload), crc32.MakeTable(crc32.Castagnoli))
	return slices.Concat(binary.LittleEndian.AppendUint32(length, sum), payload)
}

// numbered answers a record's payload: its Seq as 8 bytes, and the body.
func numbered(seq uint64, body []byte) []byte {
	return append(binary.LittleEndian.AppendUint64(nil, seq), body...)
}

// bytesOf answers the records' frames one behind the other.
func bytesOf(recs []api.Rec) []byte {
	var b []byte
	for _, rec := range recs {
		b = append(b, framed(numbered(rec.Seq, rec.Body))...)
	}
	return b
}

// from answers a record of each body, the first of that Seq.
func from(seq uint64, bodies ...[]byte) []api.Rec {
	var recs []api.Rec
	for i, body := range bodies {
		recs = append(recs, api.Rec{Seq: seq + uint64(i), Body: body})
	}
	return recs
}

// some answers bodies of several kinds; one is a record's frame itself.
func some() [][]byte {
	return [][]byte{{1, 2, 3}, nil, {9}, framed(numbered(5, []byte{6})), make([]byte, 8), bytes.Repeat([]byte{255}, 30), []byte("the last one")}
}

// scanByHand answers what Scan should.
func scanByHand(b []byte) ([]api.Rec, int) {
	var recs []api.Rec
	for end := 0; ; {
		rest := b[end:]
		if len(rest) < 16 {
			return recs, end
		}
		length := int64(binary.LittleEndian.Uint32(rest))
		if length < 8 || length > 1<<25 || int64(len(rest)) < 8+length {
			return recs, end
		}
		payload := rest[8 : 8+length]
		seq := binary.LittleEndian.Uint64(payload)
		if !bytes.Equal(framed(payload), rest[:8+length]) || seq < 1 || seq > 1<<62 {
			return recs, end
		}
		if n := len(recs); n > 0 && seq != recs[n-1].Seq+1 {
			return recs, end
		}
		recs = append(recs, api.Rec{Seq: seq, Body: payload[8:]})
		end += 8 + int(length)
	}
}

// sameRecs tells whether both have the same records, nil being as good as empty.
func sameRecs(a, b []api.Rec) bool {
	return slices.EqualFunc(a, b, func(x, y api.Rec) bool {
		return x.Seq == y.Seq && bytes.Equal(x.Body, y.Body)
	})
}

// want holds an error against the one that should be.
func want(t *testing.T, what string, got, want api.Errno) {
	t.Helper()
	if got != want {
		t.Errorf("%s: error %d, want %d", what, got, want)
	}
}

// wantScan holds what Scan answers against what it should.
func wantScan(t *testing.T, what string, b []byte, recs []api.Rec, n int) {
	t.Helper()
	got, m := wal.Scan(b)
	if !sameRecs(got, recs) || m != n {
		t.Errorf("%s: Scan tells %v, %d bytes, want %v, %d", what, got, m, recs, n)
	}
}

// wantLog holds what a log tells of itself against what it should.
func wantLog(t *testing.T, what string, w *wal.Wal, next uint64, size int64, broken bool) {
	t.Helper()
	if w.Next() != next || w.Size() != size || w.Broken() != broken {
		t.Errorf("%s: next %d, size %d, broken %v, want %d, %d, %v", what, w.Next(), w.Size(), w.Broken(), next, size, broken)
	}
}

// wantSame holds that d is as it was when kept was cloned of it.
func wantSame(t *testing.T, what string, d, kept *disk.Disk) {
	t.Helper()
	if !d.Same(kept) {
		t.Errorf("%s: the disk is another one", what)
	}
}

// diskOf answers a disk of that room whose file log has these bytes, all synced.
func diskOf(t *testing.T, room int64, b []byte) *disk.Disk {
	t.Helper()
	d, err := disk.New(room)
	want(t, "New", err, api.OK)
	want(t, "Append of the bytes", d.Append("log", b), api.OK)
	want(t, "Sync of the bytes", d.Sync("log"), api.OK)
	return d
}

// empty answers a disk of that room without files.
func empty(t *testing.T, room int64) *disk.Disk {
	t.Helper()
	d, err := disk.New(room)
	want(t, "New", err, api.OK)
	return d
}

// opened answers the disk's log, which has to be there with just these records.
func opened(t *testing.T, what string, d *disk.Disk, recs []api.Rec) *wal.Wal {
	t.Helper()
	w, got, err := wal.Open(d)
	if w == nil || err != api.OK || !sameRecs(got, recs) {
		t.Fatalf("%s: Open tells %v, error %d, want %v", what, got, err, recs)
	}
	next := uint64(1)
	if n := len(recs); n > 0 {
		next = recs[n-1].Seq + 1
	}
	wantLog(t, what, w, next, int64(len(bytesOf(recs))), false)
	return w
}

// wantAppend holds what Append answers against what it should.
func wantAppend(t *testing.T, what string, w *wal.Wal, body []byte, seq uint64, err api.Errno) {
	t.Helper()
	if s, e := w.Append(body); s != seq || e != err {
		t.Errorf("%s: Append tells %d, error %d, want %d, error %d", what, s, e, seq, err)
	}
}

// draws answers a function that tells numbers from 0 to below n, always the same ones.
func draws(seed uint64) func(n int) int {
	return func(n int) int {
		seed = seed*6364136223846793005 + 1442695040888963407
		return int(seed>>33) % n
	}
}
