package base_test

import (
	"bytes"
	"fmt"
	"slices"
	"testing"

	"wayfinder/api"
	"wayfinder/base"
	"wayfinder/disk"
)

// old answers a base that is none of some.
func old() api.Base {
	return api.Base{Seq: 3, Config: small(), Index: bytes.Repeat([]byte{5}, 56), Points: []api.Point{{ID: 9, Vec: []int16{9, 9}}}}
}

// grounds answers disks by name that a base is written on: with a base ahead or without, with a next that was left or without, with other files.
func grounds(t *testing.T, room int64) map[string]*disk.Disk {
	t.Helper()
	disks := map[string]*disk.Disk{}
	for _, based := range []bool{false, true} {
		for _, left := range []string{"no", "an empty", "a synced", "an unsynced", "a half"} {
			d := empty(t, room)
			lay(t, d, "log", []byte{1, 2}, []byte{3})
			lay(t, d, "basex", nil, []byte{4})
			if based {
				lay(t, d, "base", bytesOf(old()), nil)
			}
			switch left {
			case "an empty":
				lay(t, d, "next", nil, nil)
			case "a synced":
				lay(t, d, "next", bytesOf(api.Base{Config: tiny()}), nil)
			case "an unsynced":
				lay(t, d, "next", nil, bytesOf(old())[:70])
			case "a half":
				lay(t, d, "next", rising(100), rising(200))
			}
			disks[fmt.Sprintf("%s next, a base %v", left, based)] = d
		}
	}
	return disks
}

// operations answers how many operations a Write of b needs on the disk.
func operations(d *disk.Disk, b api.Base) int {
	n := len(payloadsOf(b)) + 2
	if d.Size("next") >= 0 {
		n++
	}
	return n
}

// TestWrite: P10.2, what is written is read; next is gone, and every other file as it was.
func TestWrite(t *testing.T) {
	for ground, d := range grounds(t, 1<<20) {
		for what, b := range some() {
			what = ground + ": " + what
			byHand := d.Clone()
			want(t, what+": by hand", writtenByHand(byHand, b), api.OK)
			want(t, what, base.Write(d, b), api.OK)
			wantSame(t, what, d, byHand)
			wantRead(t, what, d, b, api.OK)
			if x, err := d.Read("base"); err != api.OK || !bytes.Equal(x, bytesOf(b)) || d.Synced("base") != int64(len(x)) || d.Size("next") >= 0 {
				t.Errorf("%s: the file has %v, %d synced, error %d", what, x, d.Synced("base"), err)
			}
			want(t, what+": Tidy", base.Tidy(d), api.OK)
			wantSame(t, what+": Tidy", d, byHand)
		}
	}
}

// TestWriteFuse: P10.2, with a fuse that ends at each operation: ErrPower, and the disk has what the operations ahead did; with as many as are needed it is OK.
func TestWriteFuse(t *testing.T) {
	for ground, d := range grounds(t, 1<<20) {
		for what, b := range some() {
			most := operations(d, b)
			for fuse := range most + 3 {
				what := fmt.Sprint(ground, ": ", what, ", fuse ", fuse)
				err := api.OK
				if fuse < most {
					err = api.ErrPower
				}
				one, byHand := d.Clone(), d.Clone()
				want(t, what, one.Fuse(fuse), api.OK)
				want(t, what, byHand.Fuse(fuse), api.OK)
				want(t, what+": by hand", writtenByHand(byHand, b), err)
				want(t, what, base.Write(one, b), err)
				wantSame(t, what, one, byHand)
				if one.Off() != (err != api.OK) {
					t.Errorf("%s: the power is gone: %v", what, one.Off())
				}
			}
		}
	}
}

// TestWritePowerGone: P10.2, without power nothing is done, with a next or without; what is wrong with the base is told ahead.
func TestWritePowerGone(t *testing.T) {
	for ground, d := range grounds(t, 1<<20) {
		want(t, ground, d.Fuse(0), api.OK)
		want(t, ground, d.Sync("log"), api.ErrPower)
		kept := d.Clone()
		want(t, ground, base.Write(d, old()), api.ErrPower)
		want(t, ground+", a Seq", base.Write(d, api.Base{Config: small(), Seq: lastSeq + 1}), api.ErrRange)
		want(t, ground+", too many", base.Write(d, api.Base{Config: small(), Points: points(6, 2)}), api.ErrLong)
		want(t, ground+", of noughts", base.Write(d, api.Base{}), api.ErrArg)
		wantSame(t, ground, d, kept)
	}
}

// TestWriteRoom: P10.2, P10.3, as much room as the base's bytes beside what is there is enough, a next that was left not counted; of less Append tells ErrFull, and the base that was there stays.
func TestWriteRoom(t *testing.T) {
	for ground, left := range grounds(t, 1<<20) {
		for what, b := range some() {
			there := left.Used() - max(left.Size("next"), 0)
			need := int64(len(bytesOf(b)))
			for room := max(left.Used(), there+need-100); room <= there+need+2; room++ {
				what := fmt.Sprint(ground, ": ", what, ", room ", room-there, " of ", need)
				d := moved(t, left, room)
				byHand := d.Clone()
				err := api.OK
				if room < there+need {
					err = api.ErrFull
				}
				want(t, what+": by hand", writtenByHand(byHand, b), err)
				want(t, what, base.Write(d, b), err)
				wantSame(t, what, d, byHand)
				if err == api.OK {
					wantRead(t, what, d, b, api.OK)
					continue
				}
				if d.Size("base") >= 0 {
					wantRead(t, what, d, old(), api.OK)
				}
				want(t, what+": Tidy", base.Tidy(d), api.OK)
				if d.Used() != there {
					t.Errorf("%s: Tidy leaves %d bytes, want %d", what, d.Used(), there)
				}
			}
		}
	}
}

// moved answers a disk of that room with all files of the other one, as they are.
func moved(t *testing.T, d *disk.Disk, room int64) *disk.Disk {
	t.Helper()
	to := empty(t, room)
	for _, name := range d.Names() {
		b, err := d.Read(name)
		want(t, "Read of "+name, err, api.OK)
		lay(t, to, name, b[:d.Synced(name)], b[d.Synced(name):])
	}
	return to
}

// TestWriteFullAndFuse: P10.2, ErrFull takes no operation, and is told ahead of a fuse that leaves none.
func TestWriteFullAndFuse(t *testing.T) {
	for fuse := range 6 {
		d := empty(t, 57)
		want(t, "Fuse", d.Fuse(fuse), api.OK)
		want(t, "no room for a head", base.Write(d, api.Base{Config: small()}), api.ErrFull)
		if len(d.Names()) != 0 || d.Off() {
			t.Errorf("no room for a head: %v, the power is gone: %v", d.Names(), d.Off())
		}
		d = empty(t, 60)
		want(t, "Fuse", d.Fuse(fuse), api.OK)
		err := api.ErrFull
		if fuse == 0 {
			err = api.ErrPower
		}
		want(t, "no room for a point", base.Write(d, api.Base{Config: small(), Points: points(1, 2)}), err)
		if fuse > 0 && (d.Size("next") != 58 || d.Synced("next") != 0) {
			t.Errorf("no room for a point: next has %d bytes, %d synced", d.Size("next"), d.Synced("next"))
		}
	}
}

// TestNoDisk: P10.2, ErrNil of no disk, ahead of what is wrong with the base, and of one that nobody made.
func TestNoDisk(t *testing.T) {
	for what, d := range unmade() {
		for range 2 {
			for _, b := range []api.Base{old(), {}, {Config: small(), Seq: lastSeq + 1}} {
				want(t, what+": Write", base.Write(d, b), api.ErrNil)
			}
			if b, err := base.Read(d); err != api.ErrNil || !sameByHand(b, api.Base{}) {
				t.Errorf("%s: Read tells %v, error %d", what, b, err)
			}
			want(t, what+": Tidy", base.Tidy(d), api.ErrNil)
		}
	}
}

// TestRead: P10.2, ErrNone of no base, whatever next is; ErrPower; ErrBad of what is no base; else the base, synced or not.
func TestRead(t *testing.T) {
	for ground, d := range grounds(t, 1<<20) {
		err := api.OK
		if d.Size("base") < 0 {
			err = api.ErrNone
		}
		want(t, ground, d.Fuse(0), api.OK)
		wantRead(t, ground, d, old(), err)
		want(t, ground, d.Sync("log"), api.ErrPower)
		wantRead(t, ground+", no power", d, api.Base{}, api.ErrPower)
		want(t, ground, d.Crash(nil), api.OK)
		wantRead(t, ground+", behind a crash", d, old(), err)
	}
	for what, b := range some() {
		x := bytesOf(b)
		d := empty(t, 1<<20)
		lay(t, d, "base", x[:9], x[9:])
		wantRead(t, what+", not synced", d, b, api.OK)
		d.Append("base", []byte{0})
		wantRead(t, what+", with more behind", d, b, api.ErrBad)
		d.Cut("base", int64(len(x)-1))
		wantRead(t, what+", cut", d, b, api.ErrBad)
		d.Cut("base", 0)
		wantRead(t, what+", an empty file", d, b, api.ErrBad)
		lay(t, d, "next", x, nil)
		wantRead(t, what+", a next beside", d, b, api.ErrBad)
		d.Delete("base")
		wantRead(t, what+", a next alone", d, b, api.ErrNone)
	}
	wantRead(t, "a disk of no room", empty(t, 0), api.Base{}, api.ErrNone)
}

// TestTidy: P10.2, next is gone, if it is there, by one operation; ErrPower without power, also if there is nothing to do.
func TestTidy(t *testing.T) {
	for ground, d := range grounds(t, 1<<20) {
		left := d.Size("next") >= 0
		tidied := d.Clone()
		if left {
			want(t, ground, tidied.Delete("next"), api.OK)
		}
		one := d.Clone()
		want(t, ground, base.Tidy(one), api.OK)
		wantSame(t, ground, one, tidied)
		want(t, ground+", again", base.Tidy(one), api.OK)
		wantSame(t, ground+", again", one, tidied)
		// With a fuse that leaves none, and with one that leaves just one.
		none, kept, err := d.Clone(), d.Clone(), api.OK
		want(t, ground, none.Fuse(0), api.OK)
		want(t, ground, kept.Fuse(0), api.OK)
		if left {
			err = api.ErrPower
			want(t, ground, kept.Delete("next"), err)
		}
		want(t, ground+", fuse 0", base.Tidy(none), err)
		wantSame(t, ground+", fuse 0", none, kept)
		one = d.Clone()
		want(t, ground, one.Fuse(1), api.OK)
		want(t, ground+", fuse 1", base.Tidy(one), api.OK)
		want(t, ground+", fuse 1, again", base.Tidy(one), api.OK)
		// Without power.
		want(t, ground, d.Fuse(0), api.OK)
		want(t, ground, d.Sync("log"), api.ErrPower)
		kept = d.Clone()
		want(t, ground+", no power", base.Tidy(d), api.ErrPower)
		wantSame(t, ground+", no power", d, kept)
		want(t, ground, d.Crash(nil), api.OK)
		want(t, ground+", behind a crash", base.Tidy(d), api.OK)
		if d.Size("next") >= 0 || d.Size("log") != 2 {
			t.Errorf("%s, behind a crash: %v", ground, d.Names())
		}
	}
	d := empty(t, 0)
	want(t, "no files", base.Tidy(d), api.OK)
	wantSame(t, "no files", d, empty(t, 0))
}

// TestCrash: P10.3, behind a crash at each operation of a Write, with each first part of what was not synced: the base ahead, or, once it was renamed, the one that was written.
func TestCrash(t *testing.T) {
	for ground, d := range grounds(t, 1<<20) {
		based := d.Size("base") >= 0
		for what, b := range some() {
			most := operations(d, b)
			for fuse := range most + 1 {
				cut := d.Clone()
				want(t, ground, cut.Fuse(fuse), api.OK)
				done := base.Write(cut, b)
				for keep := range int(max(cut.Size("next")-cut.Synced("next"), 0)) + 1 {
					what := fmt.Sprint(ground, ": ", what, ", fuse ", fuse, ", ", keep, " bytes kept")
					crashed := cut.Clone()
					want(t, what, crashed.Crash([]int{0, keep, keep, keep}), api.OK)
					wantAhead(t, what, crashed, b, done == api.OK, based)
					want(t, what+": Tidy", base.Tidy(crashed), api.OK)
					wantAhead(t, what+", tidied", crashed, b, done == api.OK, based)
					if keep%16 == 0 {
						want(t, what+": Write", base.Write(crashed, b), api.OK)
						wantAhead(t, what+", written again", crashed, b, true, based)
					}
				}
			}
		}
	}
}

// wantAhead holds that Read tells b, if it was done; else the old base, if there was one.
func wantAhead(t *testing.T, what string, d *disk.Disk, b api.Base, done, based bool) {
	t.Helper()
	switch {
	case done:
		wantRead(t, what, d, b, api.OK)
	case based:
		wantRead(t, what, d, old(), api.OK)
	default:
		wantRead(t, what, d, api.Base{}, api.ErrNone)
	}
}

// TestLives: P10.3, drawn lives of writes, crashes and tidying, on a disk that may be full: Read tells the last base that was written.
func TestLives(t *testing.T) {
	var all []api.Base
	for _, what := range []string{"nothing", "an index", "a point", "both", "all there may", "far ids", "the least", "wider"} {
		all = append(all, some()[what])
	}
	for seed := range 300 {
		draw := draws(uint64(seed))
		d := empty(t, int64(300+draw(700)))
		is, err := api.Base{}, api.ErrNone
		for range 60 {
			what := fmt.Sprint("life ", seed)
			switch draw(6) {
			case 0:
				want(t, what, d.Fuse(draw(12)), api.OK)
			case 1:
				want(t, what, d.Crash([]int{draw(500), draw(500), draw(500)}), api.OK)
			case 2:
				byHand := d.Clone()
				tidied := api.OK
				if d.Off() || d.Size("next") >= 0 {
					tidied = byHand.Delete("next")
				}
				want(t, what+": Tidy", base.Tidy(d), tidied)
				wantSame(t, what+": Tidy", d, byHand)
			default:
				b := cloned(all[draw(len(all))])
				b.Seq = uint64(draw(1000))
				byHand := d.Clone()
				e := writtenByHand(byHand, b)
				want(t, what+": Write", base.Write(d, b), e)
				wantSame(t, what+": Write", d, byHand)
				if e == api.OK {
					is, err = b, api.OK
				}
			}
			if d.Off() {
				wantRead(t, what, d, is, api.ErrPower)
				continue
			}
			wantRead(t, what, d, is, err)
		}
	}
}

// TestOthersAreLeft: no call changes a file but base and next.
func TestOthersAreLeft(t *testing.T) {
	d := empty(t, 1<<20)
	for i, name := range []string{"a", "log", "bas", "base0", "nex", "next1", "zz"} {
		lay(t, d, name, rising(i), rising(i*2))
	}
	kept := d.Clone()
	for range 3 {
		want(t, "Write", base.Write(d, old()), api.OK)
	}
	lay(t, d, "next", nil, []byte{1})
	want(t, "Tidy", base.Tidy(d), api.OK)
	wantRead(t, "others", d, old(), api.OK)
	want(t, "Delete", d.Delete("base"), api.OK)
	wantSame(t, "others", d, kept)
	if !slices.Equal(d.Names(), []string{"a", "bas", "base0", "log", "nex", "next1", "zz"}) {
		t.Error(d.Names())
	}
}
