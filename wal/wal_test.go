package wal_test

import (
	"bytes"
	"fmt"
	"maps"
	"math"
	"slices"
	"testing"

	"wayfinder/api"
	"wayfinder/disk"
	"wayfinder/wal"
)

// TestExample: the chapter's row.
func TestExample(t *testing.T) {
	d := empty(t, 1000)
	w, recs, err := wal.Open(d)
	if err != api.OK || len(recs) != 0 || w.Next() != 1 {
		t.Fatalf("Open of an empty disk: %v, error %d", recs, err)
	}
	wantAppend(t, "Append of 7", w, []byte{7}, 1, api.OK)
	if w.Size() != 17 {
		t.Errorf("Size: %d, want 17", w.Size())
	}
}

// wantNoLog holds that Open tells this error, and nothing beside it.
func wantNoLog(t *testing.T, what string, d *disk.Disk, err api.Errno) {
	t.Helper()
	if w, recs, e := wal.Open(d); w != nil || len(recs) != 0 || e != err {
		t.Errorf("%s: Open tells %v, %v, error %d, want error %d", what, w, recs, e, err)
	}
}

// TestOpenNoDisk: P8.1, ErrNil of none, and of one that nobody made.
func TestOpenNoDisk(t *testing.T) {
	wantNoLog(t, "no disk", nil, api.ErrNil)
	wantNoLog(t, "a disk that nobody made", &disk.Disk{}, api.ErrNil)
}

// TestOpenPowerGone: P8.1, ErrPower while the power is gone, with a file or without; behind a crash it opens.
func TestOpenPowerGone(t *testing.T) {
	recs := from(4, some()...)
	for what, d := range map[string]*disk.Disk{
		"no file":       empty(t, 1000),
		"records":       diskOf(t, 1000, bytesOf(recs)),
		"more than all": diskOf(t, 1000, append(bytesOf(recs), 1)),
	} {
		want(t, what, d.Fuse(0), api.OK)
		want(t, what, d.Append("other", nil), api.ErrPower)
		kept := d.Clone()
		wantNoLog(t, what, d, api.ErrPower)
		wantSame(t, what, d, kept)
		want(t, what, d.Crash(nil), api.OK)
		if what == "no file" {
			opened(t, what, d, nil)
			continue
		}
		opened(t, what, d, recs)
	}
}

// TestOpenNoFile: P8.1, without the file nothing is there, and no file is made; others are left as they are.
func TestOpenNoFile(t *testing.T) {
	d := empty(t, 1000)
	for _, name := range []string{"base", "lo", "logs", "next"} {
		want(t, name, d.Append(name, bytesOf(from(9, some()...))[:50]), api.OK)
	}
	want(t, "Fuse", d.Fuse(0), api.OK)
	kept := d.Clone()
	opened(t, "no file", d, nil)
	wantSame(t, "no file", d, kept)
}

// TestOpenJustRecords: P8.1, of a file that is just its records nothing is changed, not even by a fuse that leaves no operation; the next Seq is one more than the last one's.
func TestOpenJustRecords(t *testing.T) {
	for _, recs := range [][]api.Rec{nil, from(1, nil), from(1, some()...), from(900, some()...), from(last-2, nil, []byte{1}), from(last-1, nil, []byte{1}), from(last, nil)} {
		for _, fuse := range []int{-1, 0, 5} {
			d := diskOf(t, 1000, bytesOf(recs))
			want(t, "Fuse", d.Fuse(fuse), api.OK)
			kept := d.Clone()
			opened(t, fmt.Sprint(len(recs), " records"), d, recs)
			wantSame(t, fmt.Sprint(len(recs), " records"), d, kept)
		}
	}
}

// behinds answers bytes by name that stand behind records up to Seq 12 and are no records.
func behinds() map[string][]byte {
	all := junk()
	all["an old record"] = bytesOf(from(12, []byte{1}))
	all["one left out"] = bytesOf(from(14, []byte{1}))
	all["no Seq"] = bytesOf(from(0, []byte{1}))
	all["a Seq too great"] = bytesOf(from(last+1, []byte{1}))
	all["a short payload"] = framed([]byte{13, 0, 0, 0, 0, 0, 0})
	return all
}

// TestOpenCuts: P8.1, what stands behind the records is cut off, also if none is there; and it lasts.
func TestOpenCuts(t *testing.T) {
	for _, recs := range [][]api.Rec{nil, from(12, nil), from(10, []byte{1}, nil, []byte{2, 3})} {
		for what, more := range behinds() {
			if len(recs) == 0 && slices.Contains([]string{"an old record", "one left out"}, what) {
				continue // the first Seq is any
			}
			d := diskOf(t, 1000, slices.Concat(bytesOf(recs), more))
			want(t, what, d.Append("other", []byte{5}), api.OK)
			w := opened(t, what, d, recs)
			wantFile(t, what, d, bytesOf(recs))
			if d.Size("other") != 1 || d.Synced("other") != 0 {
				t.Errorf("%s: another file was changed", what)
			}
			kept := d.Clone()
			opened(t, what+", again", d, recs)
			wantSame(t, what+", again", d, kept)
			want(t, what, d.Crash(nil), api.OK)
			opened(t, what+", behind a crash", d, recs)
			wantAppend(t, what, w, []byte{8}, w.Next(), api.OK)
		}
	}
}

// wantFile holds that the file log has these bytes, all synced.
func wantFile(t *testing.T, what string, d *disk.Disk, b []byte) {
	t.Helper()
	got, err := d.Read("log")
	if err != api.OK || !bytes.Equal(got, b) || d.Synced("log") != int64(len(b)) {
		t.Errorf("%s: the file has %v, %d synced, error %d, want %v", what, got, d.Synced("log"), err, b)
	}
}

// TestOpenCutFails: P8.1, Cut's error is told where the fuse leaves none; behind a crash it is cut then.
func TestOpenCutFails(t *testing.T) {
	recs := from(10, []byte{1}, nil, []byte{2, 3})
	for what, more := range behinds() {
		d := diskOf(t, 1000, slices.Concat(bytesOf(recs), more))
		want(t, what, d.Fuse(0), api.OK)
		wantNoLog(t, what, d, api.ErrPower)
		if !d.Off() || d.Size("log") != int64(len(bytesOf(recs))+len(more)) {
			t.Errorf("%s: the power is there, or the file was changed", what)
		}
		want(t, what, d.Crash([]int{3}), api.OK)
		want(t, what, d.Fuse(1), api.OK)
		opened(t, what, d, recs)
		wantFile(t, what, d, bytesOf(recs))
	}
}

// TestAppend: P8.2, each is written behind, synced, and told by its Seq.
func TestAppend(t *testing.T) {
	for _, ahead := range [][]api.Rec{nil, from(1, []byte{5}), from(77, nil, []byte{5})} {
		d := diskOf(t, 1000, bytesOf(ahead))
		w := opened(t, "ahead", d, ahead)
		recs := ahead
		for _, body := range some() {
			seq := w.Next()
			wantAppend(t, "a body", w, body, seq, api.OK)
			recs = append(slices.Clone(recs), api.Rec{Seq: seq, Body: body})
			wantLog(t, "behind Append", w, seq+1, int64(len(bytesOf(recs))), false)
			wantFile(t, "behind Append", d, bytesOf(recs))
			opened(t, "opened again", d, recs)
		}
	}
}

// TestAppendLongest: P8.2, the longest body that a frame holds is written and read again; one of a byte more is ErrLong, and changes nothing.
func TestAppendLongest(t *testing.T) {
	d := empty(t, 1<<26)
	w := opened(t, "an empty disk", d, nil)
	body := make([]byte, 1<<25-7)
	body[0], body[1<<25-9] = 1, 2
	wantAppend(t, "one byte more", w, body, 0, api.ErrLong)
	wantLog(t, "one byte more", w, 1, 0, false)
	if len(d.Names()) != 0 {
		t.Error("one byte more: a file was made")
	}
	wantAppend(t, "the longest", w, body[:1<<25-8], 1, api.OK)
	wantLog(t, "the longest", w, 2, 1<<25+8, false)
	wantAppend(t, "one behind it", w, []byte{3}, 2, api.OK)
	_, recs, err := wal.Open(d)
	if err != api.OK || !sameRecs(recs, from(1, body[:1<<25-8], []byte{3})) {
		t.Errorf("the longest: Open tells %d records, error %d", len(recs), err)
	}
}

// TestAppendOrder: P8.2, of what is wrong the first is told: nobody made it, broken, too long, the Seq, the room, the power.
func TestAppendOrder(t *testing.T) {
	long := make([]byte, 1<<25-7)
	for what, w := range unmade() {
		wantAppend(t, what, w, long, 0, api.ErrNil)
	}
	// A log that is broken, behind its last Seq, on a disk without room.
	d := diskOf(t, 17, bytesOf(from(last, []byte{1})))
	w := opened(t, "full", d, from(last, []byte{1}))
	kept := d.Clone()
	wantAppend(t, "too long, behind the last Seq", w, long, 0, api.ErrLong)
	wantAppend(t, "behind the last Seq, without room", w, nil, 0, api.ErrRange)
	want(t, "Fuse", d.Fuse(0), api.OK)
	wantAppend(t, "behind the last Seq, without power", w, nil, 0, api.ErrRange)
	wantLog(t, "behind the last Seq", w, last+1, 17, false)
	want(t, "Fuse", d.Fuse(-1), api.OK)
	wantSame(t, "behind the last Seq", d, kept)
	want(t, "Fuse", d.Fuse(0), api.OK)
	want(t, "Reset without power", w.Reset(), api.ErrPower)
	wantAppend(t, "broken, too long", w, long, 0, api.ErrState)
	wantAppend(t, "broken, behind the last Seq", w, nil, 0, api.ErrState)
	// The disk tells ErrFull ahead of a fuse that leaves none, but ErrPower once the power is gone.
	d = diskOf(t, 17, bytesOf(from(1, []byte{1})))
	w = opened(t, "full", d, from(1, []byte{1}))
	want(t, "Fuse", d.Fuse(0), api.OK)
	wantAppend(t, "without room, no operation left", w, nil, 0, api.ErrFull)
	wantLog(t, "without room, no operation left", w, 2, 17, false)
	want(t, "Sync", d.Sync("log"), api.ErrPower)
	wantAppend(t, "without room, without power", w, nil, 0, api.ErrPower)
	wantLog(t, "without room, without power", w, 2, 17, true)
}

// TestAppendLastSeq: P8.2, 2^62 is the last Seq; behind it is ErrRange, also once the log was Reset.
func TestAppendLastSeq(t *testing.T) {
	d := empty(t, 1000)
	w := opened(t, "an empty disk", d, nil)
	want(t, "Skip", w.Skip(last-1), api.OK)
	wantAppend(t, "one ahead of the last", w, []byte{1}, last-1, api.OK)
	wantAppend(t, "the last", w, nil, last, api.OK)
	kept := d.Clone()
	wantAppend(t, "behind the last", w, nil, 0, api.ErrRange)
	wantSame(t, "behind the last", d, kept)
	wantLog(t, "behind the last", w, last+1, 33, false)
	w = opened(t, "opened again", d, from(last-1, []byte{1}, nil))
	wantAppend(t, "opened again", w, nil, 0, api.ErrRange)
	want(t, "Reset", w.Reset(), api.OK)
	wantAppend(t, "behind Reset", w, nil, 0, api.ErrRange)
	wantLog(t, "behind Reset", w, last+1, 0, false)
	want(t, "Skip behind the last", w.Skip(last), api.OK)
	wantLog(t, "Skip behind the last", w, last+1, 0, false)
}

// TestAppendFull: P8.2, ErrFull changes nothing and does not break the log; what fits is written then.
func TestAppendFull(t *testing.T) {
	for room := range int64(120) {
		d := empty(t, room)
		w := opened(t, "an empty disk", d, nil)
		var recs []api.Rec
		for i, body := range slices.Concat(some(), some()) {
			kept := d.Clone()
			fits := d.Used()+16+int64(len(body)) <= room
			if !fits {
				wantAppend(t, "what does not fit", w, body, 0, api.ErrFull)
				wantSame(t, fmt.Sprint("full at ", i), d, kept)
			} else {
				wantAppend(t, "what fits", w, body, w.Next(), api.OK)
				recs = append(recs, from(uint64(len(recs)+1), body)...)
			}
			wantLog(t, "with little room", w, uint64(len(recs)+1), int64(len(bytesOf(recs))), false)
		}
		opened(t, "with little room", d, recs)
		if w.Reset() != api.OK || room >= 17 && w.Size() != 0 {
			t.Error("with little room: Reset")
		}
	}
	// Other files take of the room, too.
	d := empty(t, 40)
	want(t, "another file", d.Append("base", make([]byte, 24)), api.OK)
	w := opened(t, "another file", d, nil)
	wantAppend(t, "another file, one byte too many", w, []byte{1}, 0, api.ErrFull)
	wantAppend(t, "another file, just fits", w, nil, 1, api.OK)
}

// TestAppendPower: P8.2, the power that goes at Append or at Sync breaks the log; two operations are enough for one.
func TestAppendPower(t *testing.T) {
	for fuse := range 4 {
		d := diskOf(t, 1000, bytesOf(from(1, []byte{1, 2})))
		w := opened(t, "one", d, from(1, []byte{1, 2}))
		want(t, "Fuse", d.Fuse(fuse), api.OK)
		what := fmt.Sprint("fuse ", fuse)
		switch fuse {
		case 0:
			wantAppend(t, what, w, []byte{3}, 0, api.ErrPower)
			wantLog(t, what, w, 2, 18, true)
			want(t, what, d.Crash(nil), api.OK)
			wantFile(t, what, d, bytesOf(from(1, []byte{1, 2})))
		case 1:
			wantAppend(t, what, w, []byte{3}, 0, api.ErrPower)
			// The log is the file, and there the record stands, though it is not synced.
			wantLog(t, what, w, 2, 18+17, true)
			if d.Size("log") != 18+17 || d.Synced("log") != 18 {
				t.Errorf("%s: the file has %d bytes, %d synced", what, d.Size("log"), d.Synced("log"))
			}
		default:
			wantAppend(t, what, w, []byte{3}, 2, api.OK)
			wantLog(t, what, w, 3, 18+17, false)
			wantFile(t, what, d, bytesOf(from(1, []byte{1, 2}, []byte{3})))
		}
	}
}

// TestBroken: P8.2, a broken log does nothing more, while the power is gone and behind the crash; opened anew it does.
func TestBroken(t *testing.T) {
	for what, broke := range map[string]func(d *disk.Disk, w *wal.Wal) api.Errno{
		"Append": func(d *disk.Disk, w *wal.Wal) api.Errno {
			d.Fuse(0)
			_, err := w.Append(nil)
			return err
		},
		"Sync": func(d *disk.Disk, w *wal.Wal) api.Errno {
			d.Fuse(1)
			_, err := w.Append(nil)
			return err
		},
		"Cut": func(d *disk.Disk, w *wal.Wal) api.Errno {
			d.Fuse(0)
			return w.Reset()
		},
	} {
		for _, ahead := range [][]api.Rec{nil, from(5, []byte{1, 2})} {
			d := diskOf(t, 1000, bytesOf(ahead))
			w := opened(t, what, d, ahead)
			next := w.Next()
			want(t, what, broke(d, w), api.ErrPower)
			for range 2 {
				kept := d.Clone()
				size := d.Size("log")
				wantLog(t, what, w, next, size, true)
				wantAppend(t, what, w, []byte{1}, 0, api.ErrState)
				want(t, what+": Reset", w.Reset(), api.ErrState)
				for _, seq := range []uint64{0, 1, 900, last, last + 1} {
					want(t, what+": Skip", w.Skip(seq), api.ErrState)
				}
				wantLog(t, what, w, next, size, true)
				wantSame(t, what, d, kept)
				want(t, what, d.Crash(nil), api.OK)
			}
			w = opened(t, what, d, ahead)
			wantAppend(t, what+", opened anew", w, []byte{1}, next, api.OK)
		}
	}
}

// TestPowerThatWentElsewhere: section 'Words', an operation of the log's own that failed breaks it, not one that somebody else tried.
func TestPowerThatWentElsewhere(t *testing.T) {
	d := empty(t, 1000)
	w := opened(t, "an empty disk", d, nil)
	wantAppend(t, "ahead", w, []byte{1}, 1, api.OK)
	want(t, "Fuse", d.Fuse(0), api.OK)
	want(t, "another file", d.Append("base", nil), api.ErrPower)
	wantLog(t, "the power went, nothing was tried", w, 2, 17, false)
	want(t, "Crash", d.Crash(nil), api.OK)
	wantAppend(t, "behind the crash", w, []byte{2}, 2, api.OK)
	want(t, "Fuse", d.Fuse(0), api.OK)
	want(t, "another file", d.Append("base", nil), api.ErrPower)
	wantAppend(t, "the power is gone", w, []byte{2}, 0, api.ErrPower)
	wantLog(t, "the power is gone", w, 3, 34, true)
}

// TestReset: P8.2, no record is there, for good; the next Seq stays.
func TestReset(t *testing.T) {
	d := empty(t, 1000)
	w := opened(t, "an empty disk", d, nil)
	seq := uint64(1)
	for range 3 {
		for _, body := range some() {
			wantAppend(t, "ahead of Reset", w, body, seq, api.OK)
			seq++
		}
		want(t, "Fuse", d.Fuse(1), api.OK)
		want(t, "Reset", w.Reset(), api.OK)
		want(t, "Fuse", d.Fuse(-1), api.OK)
		wantLog(t, "behind Reset", w, seq, 0, false)
		wantFile(t, "behind Reset", d, nil)
		c := d.Clone()
		want(t, "Crash", c.Crash([]int{9, 9}), api.OK)
		opened(t, "behind Reset and a crash", c, nil)
	}
	wantAppend(t, "behind Reset", w, []byte{1}, seq, api.OK)
	opened(t, "behind Reset and Append", d, from(seq, []byte{1}))
}

// TestResetNoFile: P8.2, of no file nothing is done: no operation is taken, so there is no error, also without power.
func TestResetNoFile(t *testing.T) {
	for _, fuse := range []int{-1, 0, 1} {
		d := empty(t, 1000)
		want(t, "another file", d.Append("base", []byte{1}), api.OK)
		w := opened(t, "no file", d, nil)
		want(t, "Fuse", d.Fuse(fuse), api.OK)
		kept := d.Clone()
		want(t, "Reset of no file", w.Reset(), api.OK)
		wantSame(t, "Reset of no file", d, kept)
		wantLog(t, "Reset of no file", w, 1, 0, false)
		want(t, "Skip", w.Skip(7), api.OK)
		want(t, "Reset of no file", w.Reset(), api.OK)
		wantLog(t, "Reset of no file", w, 7, 0, false)
	}
	d := empty(t, 1000)
	w := opened(t, "no file", d, nil)
	want(t, "Fuse", d.Fuse(0), api.OK)
	want(t, "another file", d.Append("base", nil), api.ErrPower)
	want(t, "Reset of no file without power", w.Reset(), api.OK)
	wantLog(t, "Reset of no file without power", w, 1, 0, false)
}

// TestResetFails: P8.2, Cut's error is told, of an empty file, too, and breaks the log; the records are there.
func TestResetFails(t *testing.T) {
	for _, recs := range [][]api.Rec{nil, from(1, some()...)} {
		d := diskOf(t, 1000, bytesOf(recs))
		w := opened(t, "Reset without power", d, recs)
		next := w.Next()
		want(t, "Fuse", d.Fuse(0), api.OK)
		want(t, "Reset without power", w.Reset(), api.ErrPower)
		wantLog(t, "Reset without power", w, next, int64(len(bytesOf(recs))), true)
		want(t, "Crash", d.Crash(nil), api.OK)
		opened(t, "Reset without power", d, recs)
	}
}

// TestSkip: P8.2, seq is the next Seq, if that is more; nothing stands on the disk of it.
func TestSkip(t *testing.T) {
	d := empty(t, 1000)
	w := opened(t, "an empty disk", d, nil)
	kept := d.Clone()
	next := uint64(1)
	for _, seq := range []uint64{1, 5, 4, 1, 5, 6, 300, 299, 1 << 40, 7} {
		want(t, "Skip", w.Skip(seq), api.OK)
		next = max(next, seq)
		wantLog(t, fmt.Sprint("Skip to ", seq), w, next, 0, false)
		for _, seq := range []uint64{0, last + 1, last + 2, 1 << 63, math.MaxUint64} {
			want(t, fmt.Sprint("Skip to ", seq), w.Skip(seq), api.ErrArg)
			wantLog(t, fmt.Sprint("Skip to ", seq), w, next, 0, false)
		}
	}
	wantSame(t, "Skip", d, kept)
	wantAppend(t, "behind Skip", w, []byte{1}, next, api.OK)
	opened(t, "behind Skip and Append", d, from(next, []byte{1}))
	w = opened(t, "an empty file", diskOf(t, 1000, nil), nil)
	want(t, "Skip to the last", w.Skip(last), api.OK)
	wantLog(t, "Skip to the last", w, last, 0, false)
	wantAppend(t, "Skip to the last", w, nil, last, api.OK)
	wantAppend(t, "behind the last", w, nil, 0, api.ErrRange)
}

// TestSkipOrder: P8.2, ErrState of one that has records is told ahead of ErrArg; without records Skip needs no power.
func TestSkipOrder(t *testing.T) {
	d := diskOf(t, 1000, bytesOf(from(5, nil)))
	w := opened(t, "one record", d, from(5, nil))
	for _, seq := range []uint64{0, 1, 6, 7, last, last + 1, math.MaxUint64} {
		want(t, "Skip with a record", w.Skip(seq), api.ErrState)
		wantLog(t, "Skip with a record", w, 6, 16, false)
	}
	want(t, "Reset", w.Reset(), api.OK)
	want(t, "Skip to 0 behind Reset", w.Skip(0), api.ErrArg)
	want(t, "Skip behind Reset", w.Skip(9), api.OK)
	wantLog(t, "Skip behind Reset", w, 9, 0, false)
	want(t, "Fuse", d.Fuse(0), api.OK)
	want(t, "Skip, no operation left", w.Skip(10), api.OK)
	want(t, "Sync", d.Sync("log"), api.ErrPower)
	want(t, "Skip without power", w.Skip(11), api.OK)
	wantLog(t, "Skip without power", w, 11, 0, false)
	want(t, "Crash", d.Crash(nil), api.OK)
	wantAppend(t, "behind Skip", w, nil, 11, api.OK)
	want(t, "Skip with a record", w.Skip(12), api.ErrState)
}

// unmade answers logs that nobody made.
func unmade() map[string]*wal.Wal {
	return map[string]*wal.Wal{"nil": nil, "a pointer to none": {}}
}

// TestUnmade: rule 7, ErrNil where there is an error, else nothing, at all arguments, and again.
func TestUnmade(t *testing.T) {
	for what, w := range unmade() {
		for range 2 {
			wantLog(t, what, w, 0, 0, false)
			wantAppend(t, what, w, nil, 0, api.ErrNil)
			wantAppend(t, what, w, []byte{1}, 0, api.ErrNil)
			want(t, what+": Reset", w.Reset(), api.ErrNil)
			for _, seq := range []uint64{0, 1, last, last + 1, math.MaxUint64} {
				want(t, what+": Skip", w.Skip(seq), api.ErrNil)
			}
		}
	}
}

// TestMemory: rule 3, what was handed in or answered is of its own: whoever changes it changes nothing else.
func TestMemory(t *testing.T) {
	d := empty(t, 1000)
	w := opened(t, "an empty disk", d, nil)
	recs := from(1, some()...)
	for _, rec := range recs {
		in := slices.Concat(rec.Body, []byte("spare"))[:len(rec.Body)]
		kept := bytes.Clone(in[:cap(in)])
		wantAppend(t, "with spare room", w, in, rec.Seq, api.OK)
		if !bytes.Equal(in[:cap(in)], kept) {
			t.Error("what was handed in was changed")
		}
		fill(in, 77)
	}
	wantFile(t, "what was handed in is changed", d, bytesOf(recs))
	for i := range recs {
		_, got, _ := wal.Open(d)
		_, other, _ := wal.Open(d)
		_ = append(got[i].Body, 88, 88, 88, 88, 88, 88, 88, 88)
		fill(got[i].Body, 88)
		got[i].Body = recs[i].Body
		if !sameRecs(got, recs) || !sameRecs(other, recs) {
			t.Errorf("what is done to body %d is seen elsewhere", i)
		}
		clear(got[:cap(got)])
		if !sameRecs(other, recs) {
			t.Error("two answers are one list")
		}
		wantFile(t, "what was answered is changed", d, bytesOf(recs))
	}
	// Of a file that was cut the rest does not come back.
	b, _ := d.Read("log")
	c := diskOf(t, 1000, append(b, 1, 2, 3))
	w = opened(t, "cut", c, recs)
	wantAppend(t, "cut", w, []byte{5}, w.Next(), api.OK)
	opened(t, "cut", c, append(slices.Clone(recs), from(w.Next()-1, []byte{5})...))
}

// TestOthersAreLeft: a log changes no file but its own.
func TestOthersAreLeft(t *testing.T) {
	d := empty(t, 1000)
	others := map[string][]byte{"base": {1, 2}, "next": {3}, "a": nil, "log2": {4}, "zz": {5, 6, 7}}
	for _, name := range slices.Sorted(maps.Keys(others)) {
		want(t, name, d.Append(name, others[name]), api.OK)
	}
	w := opened(t, "others", d, nil)
	w.Skip(4)
	w.Append([]byte{1})
	w.Reset()
	w.Append([]byte{2})
	opened(t, "others", d, from(5, []byte{2}))
	for name, b := range others {
		got, err := d.Read(name)
		if err != api.OK || !bytes.Equal(got, b) || d.Synced(name) != 0 {
			t.Errorf("%s: %v, %d synced, error %d", name, got, d.Synced(name), err)
		}
	}
}
