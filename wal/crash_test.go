package wal_test

import (
	"fmt"
	"slices"
	"testing"

	"wayfinder/api"
	"wayfinder/disk"
	"wayfinder/wal"
)

// life is what was seen of a log: the records whose Append answered OK since the last Reset, and the one that was under way, if there is one.
type life struct {
	recs  []api.Rec
	under []api.Rec
	next  uint64
}

// act is a call of a log.
type act struct {
	kind int
	body []byte
	seq  uint64
}

const (
	appends = iota
	resets
	skips
)

// on does the act on the log, and tells whether the log is as it should be then; behind an error for the power the life is over.
func (a act) on(t *testing.T, what string, w *wal.Wal, d *disk.Disk, l *life) (over bool) {
	t.Helper()
	var err api.Errno
	switch a.kind {
	case appends:
		var seq uint64
		seq, err = w.Append(a.body)
		rec := api.Rec{Seq: l.next, Body: a.body}
		switch {
		case err == api.OK && seq == l.next:
			l.recs, l.next = append(slices.Clone(l.recs), rec), l.next+1
		case err == api.ErrPower && seq == 0:
			l.under = []api.Rec{rec}
		case err != api.ErrFull || seq != 0 || d.Used()+wal.Cost(len(a.body)) <= d.Room():
			t.Errorf("%s: Append tells %d, error %d", what, seq, err)
		}
	case resets:
		if err = w.Reset(); err == api.OK {
			l.recs = nil
		} else {
			want(t, what+": Reset", err, api.ErrPower)
		}
	case skips:
		err := w.Skip(a.seq)
		switch {
		case len(l.recs) > 0:
			want(t, what+": Skip", err, api.ErrState)
		case a.seq == 0:
			want(t, what+": Skip", err, api.ErrArg)
		default:
			want(t, what+": Skip", err, api.OK)
			l.next = max(l.next, a.seq)
		}
	}
	if w.Next() != l.next || w.Broken() != (err == api.ErrPower) {
		t.Errorf("%s: next %d, broken %v, want next %d", what, w.Next(), w.Broken(), l.next)
	}
	if err != api.ErrPower && w.Size() != int64(len(bytesOf(l.recs))) {
		t.Errorf("%s: size %d", what, w.Size())
	}
	return err == api.ErrPower
}

// script answers acts of all kinds.
func script() []act {
	return []act{
		{kind: resets},
		{kind: skips, seq: 5},
		{kind: appends, body: []byte{1, 2, 3}},
		{kind: skips, seq: 9},
		{kind: appends},
		{kind: appends, body: framed(numbered(8, []byte{1}))},
		{kind: resets},
		{kind: skips, seq: 4},
		{kind: appends, body: []byte{6}},
		{kind: resets},
		{kind: skips, seq: 20},
		{kind: appends, body: make([]byte, 9)},
		{kind: appends, body: []byte("a record that is under way, or was")},
		{kind: appends, body: []byte{7}},
		{kind: resets},
		{kind: resets},
		{kind: appends, body: []byte{8}},
	}
}

// lived answers a disk and what was seen of its log, up to where the fuse let the power go.
func lived(t *testing.T, what string, d *disk.Disk, fuse int) life {
	t.Helper()
	w := opened(t, what, d, nil)
	l := life{next: 1}
	want(t, what, d.Fuse(fuse), api.OK)
	for i, a := range script() {
		if a.on(t, fmt.Sprint(what, ", act ", i), w, d, &l) {
			break
		}
	}
	return l
}

// keeps answers how many bytes of the file log may stay behind a crash.
func keeps(d *disk.Disk) int {
	if d.Size("log") < 0 {
		return 1
	}
	return int(d.Size("log")-d.Synced("log")) + 1
}

// all answers as many as that, for each file.
func all(n int) []int {
	return []int{n, n, n}
}

// after answers the records that there have to be behind a crash that keeps n bytes: the one that was under way, too, just if it is there whole.
func (l life) after(n int) []api.Rec {
	if len(l.under) > 0 && int64(n) == wal.Cost(len(l.under[0].Body)) {
		return slices.Concat(l.recs, l.under)
	}
	return l.recs
}

// wantLasts holds that behind a crash of a copy of d, that keeps n bytes, Open has these records; again, too, without a change; whatever it comes at.
func wantLasts(t *testing.T, what string, d *disk.Disk, n int, recs []api.Rec) {
	t.Helper()
	c := d.Clone()
	want(t, what, c.Crash(all(n)), api.OK)
	wantOpensUnderCrashes(t, what, c, recs)
	w := opened(t, what, c, recs)
	kept := c.Clone()
	opened(t, what+", again", c, recs)
	wantSame(t, what+", again", c, kept)
	want(t, what, c.Crash(all(5)), api.OK)
	opened(t, what+", behind one more crash", c, recs)
	wantSame(t, what+", behind one more crash", c, kept)
	if c.Room()-c.Used() >= 17 {
		wantAppend(t, what+", and on", w, []byte{1}, w.Next(), api.OK)
		recs = slices.Concat(recs, from(w.Next()-1, []byte{1}))
	}
	opened(t, what+", and on", c, recs)
}

// wantOpensUnderCrashes holds that the power may go while a copy of d is opened, too: nothing is lost by it.
func wantOpensUnderCrashes(t *testing.T, what string, d *disk.Disk, recs []api.Rec) {
	t.Helper()
	c := d.Clone()
	for fuse := 0; ; fuse++ {
		want(t, what, c.Fuse(fuse), api.OK)
		_, _, err := wal.Open(c)
		if err == api.OK {
			return
		}
		want(t, what+", the power went", err, api.ErrPower)
		want(t, what, c.Crash(all(fuse)), api.OK)
		e := c.Clone()
		opened(t, what+", the power went", e, recs)
	}
}

// TestLasts: P8.3, a script cut off at each operation, a crash with each number of bytes kept: what answered OK is there, perhaps the one that was under way, and no other.
func TestLasts(t *testing.T) {
	for _, room := range []int64{1000, 100, 62, 55, 40, 19, 16, 0} {
		for _, other := range []string{"", "base", "next"} {
			whole := false
			for fuse := 0; !whole; fuse++ {
				what := fmt.Sprintf("room %d, file %q, fuse %d", room, other, fuse)
				d := empty(t, room)
				if other != "" {
					want(t, what, d.Append(other, nil), api.OK)
				}
				l := lived(t, what, d, fuse)
				for n := range keeps(d) {
					wantLasts(t, fmt.Sprint(what, ", kept ", n), d, n, l.after(n))
				}
				whole = !d.Off()
			}
		}
	}
}

// drawn answers an act.
func drawn(draw func(n int) int) act {
	switch draw(8) {
	case 0:
		return act{kind: resets}
	case 1:
		return act{kind: skips, seq: uint64(draw(60))}
	}
	body := make([]byte, draw(40))
	for i := range body {
		body[i] = byte(draw(256))
	}
	return act{kind: appends, body: body}
}

// play lives several lives on one disk, each opened on what the one ahead has left.
func play(t *testing.T, what string, draw func(n int) int, lives int) {
	t.Helper()
	d := empty(t, int64(draw(600)))
	var recs []api.Rec
	for i := range lives {
		what := fmt.Sprint(what, ", life ", i)
		l := life{recs: recs}
		w := opened(t, what, d, recs)
		l.next = w.Next()
		want(t, what, d.Fuse(draw(30)), api.OK)
		// Acts that need no operation may go on for ever.
		for k := range 60 {
			if drawn(draw).on(t, fmt.Sprint(what, ", act ", k), w, d, &l) {
				break
			}
		}
		n := draw(keeps(d))
		want(t, what, d.Crash(all(n)), api.OK)
		recs = l.after(n)
	}
	opened(t, what+", at the end", d, recs)
}

// TestPlay: P8.2 and P8.3 of acts that are drawn.
func TestPlay(t *testing.T) {
	for seed := range uint64(200) {
		play(t, fmt.Sprint("seed ", seed), draws(seed), 12)
	}
}

// FuzzPlay: P8.2 and P8.3 of whatever acts.
func FuzzPlay(f *testing.F) {
	for seed := range uint64(8) {
		f.Add(seed, uint8(seed))
	}
	f.Fuzz(func(t *testing.T, seed uint64, lives uint8) {
		play(t, "fuzz", draws(seed), int(lives%20))
	})
}
