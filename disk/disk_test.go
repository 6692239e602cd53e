package disk_test

import (
	"bytes"
	"fmt"
	"maps"
	"math"
	"slices"
	"strings"
	"testing"

	"wayfinder/api"
	"wayfinder/disk"
)

// made answers a disk of that room.
func made(t *testing.T, room int64) *disk.Disk {
	t.Helper()
	d, err := disk.New(room)
	if d == nil || err != api.OK {
		t.Fatalf("New(%d): %v, error %d", room, d, err)
	}
	return d
}

// want holds an error against the one that should be.
func want(t *testing.T, what string, got, want api.Errno) {
	t.Helper()
	if got != want {
		t.Errorf("%s: error %d, want %d", what, got, want)
	}
}

// wantFile holds a file's bytes, and how many of them are synced, against what should be.
func wantFile(t *testing.T, what string, d *disk.Disk, name string, b []byte, synced int) {
	t.Helper()
	got, err := d.Read(name)
	if err != api.OK || !bytes.Equal(got, b) {
		t.Errorf("%s: Read %s: %v, error %d, want %v", what, name, got, err, b)
	}
	if d.Size(name) != int64(len(b)) || d.Synced(name) != int64(synced) {
		t.Errorf("%s: %s has %d bytes, %d synced, want %d, %d", what, name, d.Size(name), d.Synced(name), len(b), synced)
	}
}

// wantNames holds the names of all files against those that should be.
func wantNames(t *testing.T, what string, d *disk.Disk, names ...string) {
	t.Helper()
	if got := d.Names(); !slices.Equal(got, names) {
		t.Errorf("%s: Names %q, want %q", what, got, names)
	}
}

// wantSame holds that d is as it was when kept was cloned of it.
func wantSame(t *testing.T, what string, d, kept *disk.Disk) {
	t.Helper()
	if !d.Same(kept) || !kept.Same(d) {
		t.Errorf("%s: the disk is another one", what)
	}
}

// filled answers a disk of room 20 with the files a (3 bytes, all synced), b (5, of which 2 are) and c (none), and no fuse.
func filled(t *testing.T) *disk.Disk {
	t.Helper()
	d := made(t, 20)
	for _, err := range []api.Errno{
		d.Append("a", []byte{1, 2, 3}), d.Sync("a"),
		d.Append("b", []byte{4, 5}), d.Sync("b"), d.Append("b", []byte{6, 7, 8}),
		d.Append("c", nil),
	} {
		want(t, "filled", err, api.OK)
	}
	return d
}

// gone answers filled's disk with the power gone.
func gone(t *testing.T) *disk.Disk {
	t.Helper()
	d := filled(t)
	want(t, "Fuse 0", d.Fuse(0), api.OK)
	want(t, "the operation that none is left for", d.Sync("a"), api.ErrPower)
	return d
}

// op is an operation by its name.
type op struct {
	name string
	do   func(d *disk.Disk) api.Errno
}

// fine answers operations that filled's disk does.
func fine() []op {
	return []op{
		{"Append", func(d *disk.Disk) api.Errno { return d.Append("a", []byte{9}) }},
		{"Append of nothing", func(d *disk.Disk) api.Errno { return d.Append("a", nil) }},
		{"Append to a new one", func(d *disk.Disk) api.Errno { return d.Append("new", []byte{9}) }},
		{"Sync", func(d *disk.Disk) api.Errno { return d.Sync("b") }},
		{"Sync of what is synced", func(d *disk.Disk) api.Errno { return d.Sync("a") }},
		{"Sync of an empty one", func(d *disk.Disk) api.Errno { return d.Sync("c") }},
		{"Rename", func(d *disk.Disk) api.Errno { return d.Rename("a", "d") }},
		{"Rename onto another", func(d *disk.Disk) api.Errno { return d.Rename("a", "b") }},
		{"Rename onto itself", func(d *disk.Disk) api.Errno { return d.Rename("a", "a") }},
		{"Delete", func(d *disk.Disk) api.Errno { return d.Delete("b") }},
		{"Cut", func(d *disk.Disk) api.Errno { return d.Cut("b", 1) }},
		{"Cut at the size", func(d *disk.Disk) api.Errno { return d.Cut("a", 3) }},
	}
}

// wrong is a call that filled's disk refuses, and by which error.
type wrong struct {
	op
	err api.Errno
}

// refused answers calls with an error of their own.
func refused() []wrong {
	return []wrong{
		{op{"Append to no name", func(d *disk.Disk) api.Errno { return d.Append("", nil) }}, api.ErrArg},
		{op{"Append of too much", func(d *disk.Disk) api.Errno { return d.Append("a", make([]byte, 13)) }}, api.ErrFull},
		{op{"Append of too much to a new one", func(d *disk.Disk) api.Errno { return d.Append("new", make([]byte, 13)) }}, api.ErrFull},
		{op{"Append of too much to no name", func(d *disk.Disk) api.Errno { return d.Append("A", make([]byte, 13)) }}, api.ErrArg},
		{op{"Sync of no name", func(d *disk.Disk) api.Errno { return d.Sync("a.b") }}, api.ErrArg},
		{op{"Sync of none", func(d *disk.Disk) api.Errno { return d.Sync("x") }}, api.ErrNone},
		{op{"Rename of no name", func(d *disk.Disk) api.Errno { return d.Rename("", "a") }}, api.ErrArg},
		{op{"Rename to no name", func(d *disk.Disk) api.Errno { return d.Rename("a", "") }}, api.ErrArg},
		{op{"Rename of none to no name", func(d *disk.Disk) api.Errno { return d.Rename("x", "") }}, api.ErrArg},
		{op{"Rename of what is not synced to no name", func(d *disk.Disk) api.Errno { return d.Rename("b", "B") }}, api.ErrArg},
		{op{"Rename of none", func(d *disk.Disk) api.Errno { return d.Rename("x", "a") }}, api.ErrNone},
		{op{"Rename of none to none", func(d *disk.Disk) api.Errno { return d.Rename("x", "x") }}, api.ErrNone},
		{op{"Rename of what is not synced", func(d *disk.Disk) api.Errno { return d.Rename("b", "d") }}, api.ErrState},
		{op{"Rename of what is not synced onto another", func(d *disk.Disk) api.Errno { return d.Rename("b", "a") }}, api.ErrState},
		{op{"Rename of what is not synced onto itself", func(d *disk.Disk) api.Errno { return d.Rename("b", "b") }}, api.ErrState},
		{op{"Delete of no name", func(d *disk.Disk) api.Errno { return d.Delete("a ") }}, api.ErrArg},
		{op{"Delete of none", func(d *disk.Disk) api.Errno { return d.Delete("x") }}, api.ErrNone},
		{op{"Cut of no name", func(d *disk.Disk) api.Errno { return d.Cut("", 0) }}, api.ErrArg},
		{op{"Cut of none", func(d *disk.Disk) api.Errno { return d.Cut("x", 0) }}, api.ErrNone},
		{op{"Cut of none below 0", func(d *disk.Disk) api.Errno { return d.Cut("x", -1) }}, api.ErrNone},
		{op{"Cut below 0", func(d *disk.Disk) api.Errno { return d.Cut("a", -1) }}, api.ErrArg},
		{op{"Cut far below 0", func(d *disk.Disk) api.Errno { return d.Cut("a", math.MinInt64) }}, api.ErrArg},
		{op{"Cut above the size", func(d *disk.Disk) api.Errno { return d.Cut("a", 4) }}, api.ErrArg},
		{op{"Cut far above the size", func(d *disk.Disk) api.Errno { return d.Cut("a", math.MaxInt64) }}, api.ErrArg},
		{op{"Cut by 2^32 more than the size", func(d *disk.Disk) api.Errno { return d.Cut("a", 1<<32+3) }}, api.ErrArg},
		{op{"Cut of an empty one above it", func(d *disk.Disk) api.Errno { return d.Cut("c", 1) }}, api.ErrArg},
		{op{"Fuse -2", func(d *disk.Disk) api.Errno { return d.Fuse(-2) }}, api.ErrArg},
		{op{"Fuse far below 0", func(d *disk.Disk) api.Errno { return d.Fuse(math.MinInt) }}, api.ErrArg},
		{op{"Crash of -1", func(d *disk.Disk) api.Errno { return d.Crash([]int{-1}) }}, api.ErrArg},
		{op{"Crash of -1 at the last file", func(d *disk.Disk) api.Errno { return d.Crash([]int{0, 1, -1}) }}, api.ErrArg},
		{op{"Crash of -1 behind all files", func(d *disk.Disk) api.Errno { return d.Crash([]int{0, 1, 0, 0, -1}) }}, api.ErrArg},
		{op{"Crash of the least", func(d *disk.Disk) api.Errno { return d.Crash([]int{0, math.MinInt}) }}, api.ErrArg},
		{op{"Read of no name", func(d *disk.Disk) api.Errno { return readError(d, "") }}, api.ErrArg},
		{op{"Read of none", func(d *disk.Disk) api.Errno { return readError(d, "x") }}, api.ErrNone},
	}
}

// readError answers Read's error, and ErrRange, which it never is, where bytes come with one.
func readError(d *disk.Disk, name string) api.Errno {
	b, err := d.Read(name)
	if err != api.OK && len(b) > 0 {
		return api.ErrRange
	}
	return err
}

// tell asks for all that is told.
func tell(d *disk.Disk) string {
	s := fmt.Sprint(d.Names(), d.Used(), d.Room(), d.Off(), d.Clone().Same(d), d.Same(nil))
	for _, name := range []string{"a", "b", "c", "x", "", "A"} {
		s += fmt.Sprint(" ", d.Size(name), d.Synced(name))
	}
	return s
}

// TestExamples: the chapter's examples.
func TestExamples(t *testing.T) {
	d := made(t, 100)
	want(t, "Append", d.Append("a", []byte{1, 2, 3}), api.OK)
	want(t, "Sync", d.Sync("a"), api.OK)
	want(t, "Append", d.Append("a", []byte{4, 5}), api.OK)
	want(t, "Crash", d.Crash([]int{1}), api.OK)
	wantFile(t, "behind the crash", d, "a", []byte{1, 2, 3, 4}, 4)

	d = made(t, 100)
	want(t, "Fuse 1", d.Fuse(1), api.OK)
	want(t, "Append", d.Append("a", []byte{1}), api.OK)
	want(t, "Sync", d.Sync("a"), api.ErrPower)
	want(t, "Read", readError(d, "a"), api.ErrPower)
}

// TestNew: P6.1, New at its edges; a new disk has no files, no fuse, and the power is there.
func TestNew(t *testing.T) {
	for _, size := range []int64{-1, math.MinInt64, api.MaxDisk + 1, math.MaxInt64} {
		if d, err := disk.New(size); d != nil || err != api.ErrArg {
			t.Errorf("New(%d): %v, error %d", size, d, err)
		}
	}
	for _, size := range []int64{0, 1, 100, api.MaxDisk - 1, api.MaxDisk} {
		d := made(t, size)
		wantNames(t, "new", d)
		if d.Room() != size || d.Used() != 0 || d.Off() || d.Size("a") != -1 || d.Synced("a") != -1 {
			t.Errorf("New(%d): room %d, used %d, off %v", size, d.Room(), d.Used(), d.Off())
		}
		for i := range 1000 {
			want(t, fmt.Sprint("operation ", i), d.Append("a", nil), api.OK)
		}
	}
}

// TestNames: P6.1 and P6.2, a name has 1 to 16 bytes from a to z and 0 to 9, wherever it is handed in.
func TestNames(t *testing.T) {
	good := []string{"a", "z", "0", "9", "m5", "abcdefghijklmnop", "qrstuvwxyz012345", "6789", strings.Repeat("z", 16)}
	bad := []string{"", strings.Repeat("a", 17), strings.Repeat("0", 1000), "é", "日", "\x00", "a\x00", "a\xff"}
	for c := range 256 {
		if c >= 'a' && c <= 'z' || c >= '0' && c <= '9' {
			good = append(good, string([]byte{byte(c)}), string([]byte{'q', byte(c)}))
			continue
		}
		for _, at := range []int{0, 7, 15} {
			name := []byte(strings.Repeat("k", 16))
			name[at] = byte(c)
			bad = append(bad, string(name), string(name[at:]), string(name[:at+1]))
		}
	}
	for _, name := range good {
		d := made(t, 10)
		want(t, "Append to "+name, d.Append(name, []byte{7}), api.OK)
		want(t, "Sync "+name, d.Sync(name), api.OK)
		wantNames(t, name, d, name)
		wantFile(t, name, d, name, []byte{7}, 1)
		want(t, "Cut "+name, d.Cut(name, 0), api.OK)
		want(t, "Rename "+name, d.Rename(name, "other"), api.OK)
		want(t, "Rename to "+name, d.Rename("other", name), api.OK)
		want(t, "Delete "+name, d.Delete(name), api.OK)
	}
	d := filled(t)
	kept := d.Clone()
	for _, name := range bad {
		for what, err := range map[string]api.Errno{
			"Append": d.Append(name, nil), "Sync": d.Sync(name), "Delete": d.Delete(name), "Cut": d.Cut(name, 0),
			"Rename": d.Rename(name, "d"), "Rename to": d.Rename("a", name), "Rename both": d.Rename(name, name), "Read": readError(d, name),
		} {
			want(t, fmt.Sprintf("%s %q", what, name), err, api.ErrArg)
		}
		if d.Size(name) != -1 || d.Synced(name) != -1 {
			t.Errorf("%q: Size %d, Synced %d", name, d.Size(name), d.Synced(name))
		}
	}
	wantSame(t, "names that may not be", d, kept)
}

// TestAppend: P6.1, Append makes a file, grows it at its end, and takes just as much as there is room.
func TestAppend(t *testing.T) {
	d := made(t, 10)
	want(t, "of nothing", d.Append("b", nil), api.OK)
	wantNames(t, "of nothing", d, "b")
	wantFile(t, "of nothing", d, "b", nil, 0)
	want(t, "of nothing again", d.Append("b", []byte{}), api.OK)
	want(t, "of 3", d.Append("b", []byte{1, 2, 3}), api.OK)
	want(t, "of 2 more", d.Append("b", []byte{4, 5}), api.OK)
	wantFile(t, "of 5", d, "b", []byte{1, 2, 3, 4, 5}, 0)
	want(t, "of one too many", d.Append("a", make([]byte, 6)), api.ErrFull)
	want(t, "of one too many behind", d.Append("b", make([]byte, 6)), api.ErrFull)
	wantNames(t, "of one too many", d, "b")
	wantFile(t, "of one too many", d, "b", []byte{1, 2, 3, 4, 5}, 0)
	want(t, "of all that there is room", d.Append("a", []byte{6, 7, 8, 9, 10}), api.OK)
	wantNames(t, "full", d, "a", "b")
	if d.Used() != 10 {
		t.Errorf("full: used %d", d.Used())
	}
	want(t, "of one to a full one", d.Append("a", []byte{0}), api.ErrFull)
	want(t, "of one to a full one, a new file", d.Append("c", []byte{0}), api.ErrFull)
	want(t, "of nothing to a full one", d.Append("c", nil), api.OK)
	wantNames(t, "full", d, "a", "b", "c")
	want(t, "Delete", d.Delete("b"), api.OK)
	want(t, "of what was freed", d.Append("c", make([]byte, 5)), api.OK)
	want(t, "Cut", d.Cut("c", 4), api.OK)
	want(t, "of two where one was freed", d.Append("a", make([]byte, 2)), api.ErrFull)
	want(t, "of one where one was freed", d.Append("a", make([]byte, 1)), api.OK)

	none := made(t, 0)
	want(t, "no room, of nothing", none.Append("a", nil), api.OK)
	want(t, "no room, of one", none.Append("a", []byte{1}), api.ErrFull)
	great := made(t, api.MaxDisk)
	want(t, "the greatest room", great.Append("a", make([]byte, 1<<16)), api.OK)
}

// TestRoomThatIsFreed: P6.1, what a Rename and a Crash take away is room again.
func TestRoomThatIsFreed(t *testing.T) {
	d := made(t, 10)
	want(t, "Append a", d.Append("a", make([]byte, 6)), api.OK)
	want(t, "Append b", d.Append("b", make([]byte, 4)), api.OK)
	want(t, "Sync b", d.Sync("b"), api.OK)
	want(t, "Rename", d.Rename("b", "a"), api.OK)
	want(t, "Append of 7", d.Append("c", make([]byte, 7)), api.ErrFull)
	want(t, "Append of 6", d.Append("c", make([]byte, 6)), api.OK)
	want(t, "Crash", d.Crash([]int{0, 2}), api.OK)
	want(t, "Append of 5", d.Append("c", make([]byte, 5)), api.ErrFull)
	want(t, "Append of 4", d.Append("c", make([]byte, 4)), api.OK)
}

// TestSync: P6.1, of a file that has bytes that are not synced, of one that has none, and of an empty one; the others stay.
func TestSync(t *testing.T) {
	d := filled(t)
	want(t, "c", d.Sync("c"), api.OK)
	wantFile(t, "c", d, "c", nil, 0)
	wantFile(t, "b behind c", d, "b", []byte{4, 5, 6, 7, 8}, 2)
	want(t, "a", d.Sync("a"), api.OK)
	wantFile(t, "a", d, "a", []byte{1, 2, 3}, 3)
	want(t, "b", d.Sync("b"), api.OK)
	wantFile(t, "b", d, "b", []byte{4, 5, 6, 7, 8}, 5)
	want(t, "Append", d.Append("b", []byte{9}), api.OK)
	wantFile(t, "b", d, "b", []byte{4, 5, 6, 7, 8, 9}, 5)
}

// TestRename: P6.1 and P6.4, to a new name, onto a file that is there, with bytes that are not synced or without, and onto itself; at once and for good.
func TestRename(t *testing.T) {
	d := filled(t)
	want(t, "a to d", d.Rename("a", "d"), api.OK)
	wantNames(t, "a to d", d, "b", "c", "d")
	wantFile(t, "a to d", d, "d", []byte{1, 2, 3}, 3)
	want(t, "a again", d.Rename("a", "e"), api.ErrNone)
	want(t, "d onto b", d.Rename("d", "b"), api.OK)
	wantNames(t, "d onto b", d, "b", "c")
	wantFile(t, "d onto b", d, "b", []byte{1, 2, 3}, 3)
	if d.Used() != 3 {
		t.Errorf("d onto b: used %d", d.Used())
	}
	want(t, "Crash", d.Crash([]int{9, 9, 9}), api.OK)
	wantNames(t, "behind the crash", d, "b", "c")
	wantFile(t, "behind the crash", d, "b", []byte{1, 2, 3}, 3)

	kept := d.Clone()
	want(t, "b onto itself", d.Rename("b", "b"), api.OK)
	wantSame(t, "b onto itself", d, kept)
	want(t, "an empty one", d.Rename("c", "b"), api.OK)
	wantNames(t, "an empty one", d, "b")
	wantFile(t, "an empty one", d, "b", nil, 0)

	want(t, "Append", d.Append("b", []byte{1}), api.OK)
	kept = d.Clone()
	want(t, "not synced", d.Rename("b", "e"), api.ErrState)
	want(t, "not synced, onto itself", d.Rename("b", "b"), api.ErrState)
	wantSame(t, "not synced", d, kept)
	want(t, "Sync", d.Sync("b"), api.OK)
	want(t, "synced", d.Rename("b", "e"), api.OK)
	want(t, "Append to the old name", d.Append("b", []byte{2}), api.OK)
	wantFile(t, "the old name", d, "b", []byte{2}, 0)
	wantFile(t, "the new name", d, "e", []byte{1}, 1)
}

// TestDelete: P6.1, it is gone at once and for good, with all its bytes; a new one of that name has none of them.
func TestDelete(t *testing.T) {
	d := filled(t)
	want(t, "b", d.Delete("b"), api.OK)
	wantNames(t, "b", d, "a", "c")
	want(t, "Read b", readError(d, "b"), api.ErrNone)
	if d.Size("b") != -1 || d.Synced("b") != -1 || d.Used() != 3 {
		t.Errorf("b: Size %d, Synced %d, used %d", d.Size("b"), d.Synced("b"), d.Used())
	}
	want(t, "b again", d.Delete("b"), api.ErrNone)
	want(t, "Crash", d.Crash(nil), api.OK)
	wantNames(t, "behind the crash", d, "a", "c")
	want(t, "Append b", d.Append("b", []byte{1}), api.OK)
	wantFile(t, "a new b", d, "b", []byte{1}, 0)
	want(t, "an empty one", d.Delete("c"), api.OK)
	wantNames(t, "an empty one", d, "a", "b")
}

// TestCut: P6.1 and P6.4, at every n up to the size: the first n bytes stay and are synced, those too that were not; behind a crash as well.
func TestCut(t *testing.T) {
	whole := []byte{4, 5, 6, 7, 8}
	for n := range 6 {
		d := filled(t)
		want(t, "Cut", d.Cut("b", int64(n)), api.OK)
		wantFile(t, fmt.Sprint("Cut ", n), d, "b", whole[:n], n)
		if d.Used() != int64(3+n) {
			t.Errorf("Cut %d: used %d", n, d.Used())
		}
		want(t, "Append", d.Append("b", []byte{9}), api.OK)
		wantFile(t, fmt.Sprint("Cut ", n, " and Append"), d, "b", slices.Concat(whole[:n], []byte{9}), n)
		want(t, "Crash", d.Crash(nil), api.OK)
		wantFile(t, fmt.Sprint("Cut ", n, " and Crash"), d, "b", whole[:n], n)
		wantFile(t, "the other one", d, "a", []byte{1, 2, 3}, 3)
	}
	d := filled(t)
	want(t, "an empty one", d.Cut("c", 0), api.OK)
	wantFile(t, "an empty one", d, "c", nil, 0)
}

// TestRefused: rules 1 and 2, each error of each call, of two that apply the one that is named first; what is refused changes nothing, and uses nothing up of the fuse.
func TestRefused(t *testing.T) {
	for _, c := range refused() {
		for _, fuse := range []int{-1, 0, 1, 7} {
			d := filled(t)
			want(t, "Fuse", d.Fuse(fuse), api.OK)
			kept := d.Clone()
			want(t, fmt.Sprint(c.name, ", fuse ", fuse), c.do(d), c.err)
			wantSame(t, c.name, d, kept)
		}
	}
}

// TestPowerGone: P6.1 and P6.2, once the power is gone each operation and Read is ErrPower, with another error too, and nothing changes; what Fuse and Crash refuse they refuse as ever.
func TestPowerGone(t *testing.T) {
	d := gone(t)
	kept := d.Clone()
	for _, c := range fine() {
		want(t, c.name, c.do(d), api.ErrPower)
	}
	for _, c := range refused() {
		err := api.ErrPower
		if strings.HasPrefix(c.name, "Fuse") || strings.HasPrefix(c.name, "Crash") {
			err = c.err
		}
		want(t, c.name, c.do(d), err)
	}
	want(t, "Read", readError(d, "a"), api.ErrPower)
	wantSame(t, "the power is gone", d, kept)
}

// TestToldWhileGone: P6.3, all is told as ever while the power is gone, but that it is.
func TestToldWhileGone(t *testing.T) {
	d := gone(t)
	wantNames(t, "gone", d, "a", "b", "c")
	for _, c := range []struct {
		name         string
		size, synced int64
	}{{"a", 3, 3}, {"b", 5, 2}, {"c", 0, 0}, {"x", -1, -1}, {"", -1, -1}} {
		if d.Size(c.name) != c.size || d.Synced(c.name) != c.synced {
			t.Errorf("%q: Size %d, Synced %d", c.name, d.Size(c.name), d.Synced(c.name))
		}
	}
	if d.Used() != 8 || d.Room() != 20 || !d.Off() || !d.Clone().Off() || !d.Same(d) || !d.Same(d.Clone()) {
		t.Errorf("used %d, room %d, off %v", d.Used(), d.Room(), d.Off())
	}
}

// TestFuse: P6.2, so many operations are done, of whatever kind; at the next one nothing is done, and the power goes; what has an error, Read and what is told use up none.
func TestFuse(t *testing.T) {
	for _, c := range fine() {
		for _, n := range []int{0, 1, 2, 3, 100} {
			d := filled(t)
			want(t, "Fuse", d.Fuse(n), api.OK)
			for range n {
				before := tell(d)
				for _, w := range refused() {
					want(t, w.name, w.do(d), w.err)
				}
				want(t, "Read", readError(d, "b"), api.OK)
				if tell(d) != before {
					t.Fatalf("what is told changed: %s, then %s", before, tell(d))
				}
				want(t, "an operation", d.Append("c", nil), api.OK)
			}
			if d.Off() {
				t.Errorf("Fuse %d: off ahead of the last one", n)
			}
			wantFile(t, "the files", d, "b", []byte{4, 5, 6, 7, 8}, 2)
			want(t, c.name, c.do(d), api.ErrPower)
			if !d.Off() {
				t.Errorf("Fuse %d: %s: the power is there", n, c.name)
			}
			wantNames(t, c.name, d, "a", "b", "c")
			want(t, "Crash", d.Crash([]int{0, 3}), api.OK)
			wantFile(t, c.name, d, "a", []byte{1, 2, 3}, 3)
			wantFile(t, c.name, d, "b", []byte{4, 5, 6, 7, 8}, 5)
		}
	}
}

// TestEachUsesOne: P6.1, each operation uses up one of the fuse, also one that changes nothing.
func TestEachUsesOne(t *testing.T) {
	for _, c := range fine() {
		d := filled(t)
		want(t, "Fuse", d.Fuse(1), api.OK)
		want(t, c.name, c.do(d), api.OK)
		want(t, c.name+" and another", d.Append("zz", nil), api.ErrPower)
	}
}

// TestFuseSetAnew: P6.2, the last one that is set counts; -1 takes it away; the greatest one is one.
func TestFuseSetAnew(t *testing.T) {
	d := filled(t)
	for _, n := range []int{0, 3, 1, -1, 0, math.MaxInt, 2} {
		want(t, "Fuse", d.Fuse(n), api.OK)
	}
	want(t, "Fuse -2", d.Fuse(-2), api.ErrArg)
	want(t, "the first", d.Sync("a"), api.OK)
	want(t, "set anew", d.Fuse(2), api.OK)
	want(t, "the second", d.Sync("a"), api.OK)
	want(t, "the third", d.Sync("a"), api.OK)
	want(t, "Fuse -1", d.Fuse(-1), api.OK)
	for range 100 {
		want(t, "without a fuse", d.Sync("a"), api.OK)
	}
	want(t, "the greatest", d.Fuse(math.MaxInt), api.OK)
	for range 100 {
		want(t, "of the greatest", d.Sync("a"), api.OK)
	}
	less := filled(t)
	want(t, "Fuse of 100 less", less.Fuse(math.MaxInt-100), api.OK)
	wantSame(t, "the greatest, 100 done", d, less)
}

// TestFuseWhileGone: P6.2, a fuse that is set while the power is gone does not bring it back, and a crash takes it away.
func TestFuseWhileGone(t *testing.T) {
	for _, n := range []int{-1, 0, 1, 100} {
		d := gone(t)
		want(t, "Fuse", d.Fuse(n), api.OK)
		if !d.Off() {
			t.Errorf("Fuse %d: the power is there", n)
		}
		for range 3 {
			want(t, "an operation", d.Append("c", nil), api.ErrPower)
			want(t, "Read", readError(d, "a"), api.ErrPower)
		}
		other := gone(t)
		if d.Same(other) != (n == 0) {
			t.Errorf("Fuse %d while the power is gone: Same as fuse 0: %v", n, d.Same(other))
		}
		want(t, "Crash", d.Crash(nil), api.OK)
		want(t, "Crash", other.Crash(nil), api.OK)
		wantSame(t, "behind the crash", d, other)
		for range 200 {
			want(t, "behind the crash", d.Append("c", nil), api.OK)
		}
	}
}

// TestCrash: P6.2, of each file by rising names, modulo how many are not synced and 1; 0 where there is no number.
func TestCrash(t *testing.T) {
	for _, c := range []struct {
		keep []int
		stay [3]int
	}{
		{nil, [3]int{0, 0, 0}},
		{[]int{}, [3]int{0, 0, 0}},
		{[]int{1}, [3]int{1, 0, 0}},
		{[]int{2, 1}, [3]int{2, 1, 0}},
		{[]int{0, 0, 4}, [3]int{0, 0, 4}},
		{[]int{2, 3, 4}, [3]int{2, 3, 4}},
		{[]int{3, 4, 5}, [3]int{0, 0, 0}},
		{[]int{4, 5, 6}, [3]int{1, 1, 1}},
		{[]int{1, 2, 3, 4, 5}, [3]int{1, 2, 3}},
		{[]int{1, 2, 3, math.MaxInt}, [3]int{1, 2, 3}},
		{[]int{math.MaxInt, math.MaxInt, math.MaxInt}, [3]int{math.MaxInt % 3, math.MaxInt % 4, math.MaxInt % 5}},
		{[]int{1 << 32, 1 << 40, 1<<32 + 1}, [3]int{1 << 32 % 3, 1 << 40 % 4, (1<<32 + 1) % 5}},
	} {
		d := made(t, 100)
		whole := map[string][]byte{"m": {1, 2, 3}, "a": {4, 5, 6}, "z9": {7, 8, 9, 10, 11}}
		synced := map[string]int{"a": 1, "m": 0, "z9": 1}
		for _, name := range []string{"z9", "a", "m"} {
			b, n := whole[name], synced[name]
			want(t, "Append", d.Append(name, b[:n]), api.OK)
			want(t, "Sync", d.Sync(name), api.OK)
			want(t, "Append", d.Append(name, b[n:]), api.OK)
		}
		kept := slices.Clone(c.keep)
		want(t, "Crash", d.Crash(c.keep), api.OK)
		if !slices.Equal(c.keep, kept) {
			t.Errorf("Crash changed %v to %v", kept, c.keep)
		}
		wantNames(t, "behind the crash", d, "a", "m", "z9")
		used := 0
		for i, name := range d.Names() {
			n := synced[name] + c.stay[i]
			wantFile(t, fmt.Sprint("Crash of ", c.keep), d, name, whole[name][:n], n)
			used += n
		}
		if d.Used() != int64(used) {
			t.Errorf("Crash of %v: used %d, want %d", c.keep, d.Used(), used)
		}
	}
}

// TestCrashBringsPower: P6.2, behind a crash the power is there and no fuse, whether it was gone or not; what is refused leaves it gone.
func TestCrashBringsPower(t *testing.T) {
	d := gone(t)
	want(t, "Crash of -1", d.Crash([]int{0, 0, 0, -1}), api.ErrArg)
	if !d.Off() || d.Synced("b") != 2 || d.Size("b") != 5 {
		t.Error("a crash that is refused changed something")
	}
	want(t, "Crash", d.Crash([]int{7, 2}), api.OK)
	if d.Off() {
		t.Error("the power is gone behind the crash")
	}
	wantFile(t, "behind it", d, "b", []byte{4, 5, 6, 7}, 4)

	d = filled(t)
	want(t, "Fuse 0", d.Fuse(0), api.OK)
	want(t, "Crash with the power", d.Crash(nil), api.OK)
	want(t, "Append", d.Append("b", []byte{1}), api.OK)
	wantFile(t, "behind it", d, "b", []byte{4, 5, 1}, 2)
	kept := made(t, 20)
	want(t, "Crash of an empty one", kept.Crash([]int{1, 2}), api.OK)
	wantSame(t, "a crash of no files", kept, made(t, 20))
}

// TestTwoCrashes: P6.4, a second crash takes nothing more.
func TestTwoCrashes(t *testing.T) {
	for stay := range 4 {
		d := filled(t)
		want(t, "the first", d.Crash([]int{0, stay}), api.OK)
		kept := d.Clone()
		for again := range 4 {
			want(t, "the second", d.Crash([]int{again, again, again}), api.OK)
			wantSame(t, "the second", d, kept)
		}
	}
}

// unmade answers disks that nobody made.
func unmade() map[string]*disk.Disk {
	return map[string]*disk.Disk{"nil": nil, "the zero value": {}, "new": new(disk.Disk)}
}

// TestUnmade: rule 7, what a disk that nobody made answers, whatever else is wrong.
func TestUnmade(t *testing.T) {
	for what, d := range unmade() {
		for _, c := range fine() {
			want(t, what+": "+c.name, c.do(d), api.ErrNil)
		}
		for _, c := range refused() {
			want(t, what+": "+c.name, c.do(d), api.ErrNil)
		}
		for _, n := range []int{-2, -1, 0, 1, math.MaxInt} {
			want(t, what+": Fuse", d.Fuse(n), api.ErrNil)
		}
		want(t, what+": Crash", d.Crash(nil), api.ErrNil)
		want(t, what+": Crash of -1", d.Crash([]int{-1}), api.ErrNil)
		if b, err := d.Read("a"); len(b) > 0 || err != api.ErrNil {
			t.Errorf("%s: Read %v, error %d", what, b, err)
		}
		if len(d.Names()) > 0 || d.Used() != 0 || d.Room() != 0 || d.Off() || d.Clone() != nil {
			t.Errorf("%s: it tells something", what)
		}
		for _, name := range []string{"a", "", "A"} {
			if d.Size(name) != -1 || d.Synced(name) != -1 {
				t.Errorf("%s: %q: Size %d, Synced %d", what, name, d.Size(name), d.Synced(name))
			}
		}
		for other, o := range unmade() {
			if !d.Same(o) {
				t.Errorf("%s is not the same as %s", what, other)
			}
		}
		for _, o := range []*disk.Disk{made(t, 0), filled(t), gone(t)} {
			if d.Same(o) || o.Same(d) {
				t.Errorf("%s is the same as one that New answered", what)
			}
		}
	}
}

// TestSame: P6.3, two that differ in just one thing are not the same; two that came to be the same are, whatever came ahead.
func TestSame(t *testing.T) {
	put := func(room int64, name string, b []byte, cut int64, fuse int) *disk.Disk {
		d := made(t, room)
		want(t, "Append", d.Append(name, b), api.OK)
		want(t, "Cut", d.Cut(name, cut), api.OK)
		want(t, "Append", d.Append(name, b[cut:]), api.OK)
		want(t, "Fuse", d.Fuse(fuse), api.OK)
		return d
	}
	first := func() *disk.Disk { return put(9, "a", []byte{1, 2, 3}, 2, 0) }
	off := first()
	want(t, "Sync", off.Sync("a"), api.ErrPower)
	more := first()
	want(t, "Fuse", more.Fuse(-1), api.OK)
	want(t, "Append", more.Append("b", nil), api.OK)
	want(t, "Fuse", more.Fuse(0), api.OK)
	disks := map[string]*disk.Disk{
		"the first":                      first(),
		"another name":                   put(9, "b", []byte{1, 2, 3}, 2, 0),
		"a longer name":                  put(9, "aa", []byte{1, 2, 3}, 2, 0),
		"another byte, synced":           put(9, "a", []byte{1, 0, 3}, 2, 0),
		"another byte, not synced":       put(9, "a", []byte{1, 2, 0}, 2, 0),
		"a byte less":                    put(9, "a", []byte{1, 2}, 2, 0),
		"a byte more":                    put(9, "a", []byte{1, 2, 3, 0}, 2, 0),
		"fewer synced":                   put(9, "a", []byte{1, 2, 3}, 1, 0),
		"more synced":                    put(9, "a", []byte{1, 2, 3}, 3, 0),
		"another room":                   put(10, "a", []byte{1, 2, 3}, 2, 0),
		"another fuse":                   put(9, "a", []byte{1, 2, 3}, 2, 1),
		"no fuse":                        put(9, "a", []byte{1, 2, 3}, 2, -1),
		"the power gone":                 off,
		"one file more, which has none":  more,
		"no file":                        made(t, 9),
		"no file, and the room of other": made(t, 10),
	}
	for a, d := range disks {
		for b, o := range disks {
			if d.Same(o) != (a == b) {
				t.Errorf("%s and %s: Same %v", a, b, d.Same(o))
			}
		}
		wantSame(t, a+", cloned", d.Clone(), d)
	}
	wantSame(t, "made twice", first(), first())
	long := made(t, 9)
	for _, err := range []api.Errno{
		long.Append("b", []byte{7, 7, 7}), long.Append("c", []byte{1}), long.Delete("b"), long.Append("c", []byte{2}), long.Sync("c"),
		long.Rename("c", "a"), long.Append("a", []byte{3}), long.Fuse(4), long.Append("d", nil), long.Delete("d"), long.Fuse(0),
	} {
		want(t, "another way", err, api.OK)
	}
	wantSame(t, "another way", long, first())
}

// TestClone: P6.3 and rule 3, what is done to a clone changes nothing of the first one, nor the other way.
func TestClone(t *testing.T) {
	acts := append(fine(),
		op{"Fuse", func(d *disk.Disk) api.Errno { return d.Fuse(3) }},
		op{"Crash", func(d *disk.Disk) api.Errno { return d.Crash([]int{0, 1}) }},
	)
	for _, c := range acts {
		d := filled(t)
		clone, kept := d.Clone(), filled(t)
		want(t, c.name, c.do(d), api.OK)
		wantSame(t, c.name+" to the first", clone, kept)
		wantSame(t, c.name+" to the first", d.Clone(), d)

		d = filled(t)
		clone = d.Clone()
		want(t, c.name, c.do(clone), api.OK)
		wantSame(t, c.name+" to the clone", d, kept)
	}
	d := filled(t)
	want(t, "Cut", d.Cut("a", 1), api.OK)
	clone := d.Clone()
	want(t, "Append to the first", d.Append("a", []byte{8, 8}), api.OK)
	want(t, "Append to the clone", clone.Append("a", []byte{9, 9}), api.OK)
	wantFile(t, "the first", d, "a", []byte{1, 8, 8}, 1)
	wantFile(t, "the clone", clone, "a", []byte{1, 9, 9}, 1)

	d = gone(t)
	clone = d.Clone()
	want(t, "Crash", d.Crash(nil), api.OK)
	if !clone.Off() || clone.Append("c", nil) != api.ErrPower {
		t.Error("the power is back in the clone")
	}
	want(t, "Fuse", d.Fuse(2), api.OK)
	clone = d.Clone()
	for range 2 {
		want(t, "the first one's fuse", d.Sync("a"), api.OK)
	}
	want(t, "the first one's fuse", d.Sync("a"), api.ErrPower)
	for range 2 {
		want(t, "the clone's fuse", clone.Sync("a"), api.OK)
	}
	want(t, "the clone's fuse", clone.Sync("a"), api.ErrPower)
}

// TestMemory: rule 3, what is handed in is not changed nor kept, its spare room neither; what is answered is new memory.
func TestMemory(t *testing.T) {
	room := []byte{1, 2, 3, 4, 5, 6}
	in := room[:2]
	d := made(t, 100)
	want(t, "Append", d.Append("a", in), api.OK)
	want(t, "Append", d.Append("a", []byte{9, 9}), api.OK)
	want(t, "Append", d.Append("b", in), api.OK)
	want(t, "Append", d.Append("b", []byte{8}), api.OK)
	if !bytes.Equal(room, []byte{1, 2, 3, 4, 5, 6}) {
		t.Error("what was handed in is", room)
	}
	for i := range room {
		room[i] = 100
	}
	wantFile(t, "behind a change of what was handed in", d, "a", []byte{1, 2, 9, 9}, 0)
	wantFile(t, "behind a change of what was handed in", d, "b", []byte{1, 2, 8}, 0)

	first, _ := d.Read("a")
	second, _ := d.Read("a")
	whole := first[:cap(first)]
	for i := range whole {
		whole[i] = 77
	}
	if !bytes.Equal(second, []byte{1, 2, 9, 9}) {
		t.Error("two answers share memory:", second)
	}
	want(t, "Append", d.Append("a", []byte{5}), api.OK)
	wantFile(t, "behind a change of what was answered", d, "a", []byte{1, 2, 9, 9, 5}, 0)
	if len(first) != 4 || first[0] != 77 || slices.Contains(whole, 5) {
		t.Error("what was answered changed:", whole)
	}

	names := d.Names()
	names = append(names[:0], "x", "y")
	wantNames(t, "behind a change of the names", d, "a", "b")
	if names[0] != "x" {
		t.Error("the names that were answered changed")
	}
	keep := []int{1, 1, 1}
	want(t, "Crash", d.Crash(keep[:1]), api.OK)
	wantFile(t, "the spare room of Crash's list", d, "b", nil, 0)
	if !slices.Equal(keep, []int{1, 1, 1}) {
		t.Error("Crash changed its list:", keep)
	}
}

// TestMemoryBehindCut: rule 3, what was read ahead of a Cut or a Crash stays, whatever is put there later.
func TestMemoryBehindCut(t *testing.T) {
	d := filled(t)
	read, _ := d.Read("b")
	clone := d.Clone()
	want(t, "Cut", d.Cut("b", 1), api.OK)
	want(t, "Append", d.Append("b", []byte{100, 100, 100}), api.OK)
	want(t, "Crash", d.Crash(nil), api.OK)
	want(t, "Append", d.Append("b", []byte{101, 101}), api.OK)
	wantFile(t, "behind it", d, "b", []byte{4, 101, 101}, 1)
	wantFile(t, "the clone", clone, "b", []byte{4, 5, 6, 7, 8}, 2)
	if !bytes.Equal(read, []byte{4, 5, 6, 7, 8}) {
		t.Error("what was read changed:", read)
	}
}

// TestNamesRise: P6.3, Names are told byte by byte, whatever the order in which the files came.
func TestNamesRise(t *testing.T) {
	names := []string{"0", "00", "09", "1", "10", "9", "a", "a0", "aa", "ab", "b", "z", "zz", "zzzzzzzzzzzzzzzz"}
	draw := draws(1)
	for range 50 {
		mixed := slices.Clone(names)
		for i := range mixed {
			j := i + draw(len(mixed)-i)
			mixed[i], mixed[j] = mixed[j], mixed[i]
		}
		d := made(t, 100)
		for _, name := range mixed {
			want(t, "Append", d.Append(name, []byte{1}), api.OK)
		}
		wantNames(t, "mixed", d, names...)
	}
}

// draws answers a function that tells numbers below n, always the same ones.
func draws(seed uint64) func(n int) int {
	return func(n int) int {
		seed = seed*6364136223846793005 + 1442695040888963407
		return int((seed >> 33) % uint64(n))
	}
}

// plain is a disk by hand: of each file what lasts and what does not, as two texts.
type plain struct {
	lasts, rest map[string]string
	room        int
	fuse        int
	off         bool
}

func newPlain(room int) *plain {
	return &plain{lasts: map[string]string{}, rest: map[string]string{}, room: room, fuse: -1}
}

func (p *plain) used() int {
	n := 0
	for _, s := range p.lasts {
		n += len(s)
	}
	for _, s := range p.rest {
		n += len(s)
	}
	return n
}

func (p *plain) has(name string) bool { _, ok := p.lasts[name]; return ok }

// burn tells whether an operation is done.
func (p *plain) burn() bool {
	p.off = p.fuse == 0
	if p.fuse > 0 {
		p.fuse--
	}
	return !p.off
}

// do does an act by hand and answers its error.
func (p *plain) do(a act) api.Errno {
	switch a.kind {
	case "fuse":
		if a.n < -1 {
			return api.ErrArg
		}
		p.fuse = a.n
		return api.OK
	case "crash":
		return p.crash(a.keep)
	}
	if p.off {
		return api.ErrPower
	}
	if !isName(a.name) || a.kind == "rename" && !isName(a.to) {
		return api.ErrArg
	}
	if a.kind != "append" && !p.has(a.name) {
		return api.ErrNone
	}
	if a.kind == "read" {
		return api.OK
	}
	return p.operation(a)
}

func (p *plain) operation(a act) api.Errno {
	all := p.lasts[a.name] + p.rest[a.name]
	switch {
	case a.kind == "append" && p.used()+len(a.bytes) > p.room:
		return api.ErrFull
	case a.kind == "rename" && p.rest[a.name] != "":
		return api.ErrState
	case a.kind == "cut" && (a.n < 0 || a.n > len(all)):
		return api.ErrArg
	}
	if !p.burn() {
		return api.ErrPower
	}
	switch a.kind {
	case "append":
		p.lasts[a.name], p.rest[a.name] = p.lasts[a.name], p.rest[a.name]+a.bytes
	case "sync":
		p.lasts[a.name], p.rest[a.name] = all, ""
	case "rename":
		delete(p.lasts, a.name)
		delete(p.rest, a.name)
		p.lasts[a.to], p.rest[a.to] = all, ""
	case "delete":
		delete(p.lasts, a.name)
		delete(p.rest, a.name)
	case "cut":
		p.lasts[a.name], p.rest[a.name] = all[:a.n], ""
	}
	return api.OK
}

func (p *plain) crash(keep []int) api.Errno {
	for _, n := range keep {
		if n < 0 {
			return api.ErrArg
		}
	}
	for i, name := range slices.Sorted(maps.Keys(p.lasts)) {
		n := 0
		if i < len(keep) {
			n = keep[i] % (len(p.rest[name]) + 1)
		}
		p.lasts[name] += p.rest[name][:n]
		p.rest[name] = ""
	}
	p.fuse, p.off = -1, false
	return api.OK
}

// isName tells the chapter's word by hand.
func isName(name string) bool {
	return name != "" && len(name) < 17 && strings.Trim(name, "abcdefghijklmnopqrstuvwxyz0123456789") == ""
}

// act is a call by its kind.
type act struct {
	kind, name, to string
	bytes          string
	n              int
	keep           []int
}

// on does an act on a disk.
func (a act) on(d *disk.Disk) api.Errno {
	switch a.kind {
	case "append":
		return d.Append(a.name, []byte(a.bytes))
	case "sync":
		return d.Sync(a.name)
	case "rename":
		return d.Rename(a.name, a.to)
	case "delete":
		return d.Delete(a.name)
	case "cut":
		return d.Cut(a.name, int64(a.n))
	case "fuse":
		return d.Fuse(a.n)
	case "crash":
		return d.Crash(a.keep)
	}
	return readError(d, a.name)
}

// drawn answers an act; draw tells numbers below the one it is handed.
func drawn(draw func(n int) int) act {
	kinds := []string{"append", "append", "append", "append", "sync", "sync", "rename", "delete", "cut", "cut", "fuse", "crash", "read"}
	names := []string{"a", "b", "cc", "0", "log", "abcdefghijklmnop", "A", "", "abcdefghijklmnopq"}
	name := func() string { return names[min(draw(len(names)), draw(len(names)))] }
	a := act{kind: kinds[draw(len(kinds))], name: name(), to: name(), n: draw(9) - 1}
	for range draw(7) {
		a.bytes += string([]byte{byte(draw(256))})
	}
	if a.kind == "fuse" {
		a.n = []int{-2, -1, 0, 1, 2, 3, 5, 8, 20}[draw(9)]
	}
	for range draw(8) {
		a.keep = append(a.keep, []int{0, 1, 2, 3, 5, 8, 100, math.MaxInt}[draw(8)])
	}
	if draw(20) == 0 {
		a.keep = append(a.keep, -1)
	}
	return a
}

// hold holds all that d tells against p.
func hold(t *testing.T, what string, d *disk.Disk, p *plain) {
	t.Helper()
	wantNames(t, what, d, slices.Sorted(maps.Keys(p.lasts))...)
	if d.Used() != int64(p.used()) || d.Room() != int64(p.room) || d.Off() != p.off || d.Used() > d.Room() {
		t.Fatalf("%s: used %d, room %d, off %v, want %d, %d, %v", what, d.Used(), d.Room(), d.Off(), p.used(), p.room, p.off)
	}
	for name := range p.lasts {
		all := p.lasts[name] + p.rest[name]
		if d.Size(name) != int64(len(all)) || d.Synced(name) != int64(len(p.lasts[name])) {
			t.Fatalf("%s: %s: Size %d, Synced %d, want %q, %q", what, name, d.Size(name), d.Synced(name), p.lasts[name], p.rest[name])
		}
		b, err := d.Read(name)
		if p.off && err == api.ErrPower && len(b) == 0 {
			continue
		}
		if err != api.OK || string(b) != all {
			t.Fatalf("%s: Read %s: %q, error %d, want %q", what, name, b, err, all)
		}
	}
}

// play does drawn acts on a disk and by hand, and holds them against each other.
func play(t *testing.T, what string, draw func(n int) int, acts int) {
	t.Helper()
	room := draw(40)
	d, p := made(t, int64(room)), newPlain(room)
	for i := range acts {
		a := drawn(draw)
		at := fmt.Sprintf("%s, act %d, %+v", what, i, a)
		before := d.Clone()
		got, err := a.on(d), p.do(a)
		if got != err {
			t.Fatalf("%s: error %d, want %d", at, got, err)
		}
		hold(t, at, d, p)
		if err != api.OK && err != api.ErrPower {
			wantSame(t, at, d, before)
		}
		if a.kind == "crash" && err == api.OK {
			holdCrash(t, at, before, d)
		}
		if draw(6) == 0 {
			d = d.Clone() // from here on the clone is the disk
		}
	}
}

// holdCrash: P6.4, each file has all that was synced, and a first part of what was behind it; all of it is synced.
func holdCrash(t *testing.T, what string, before, behind *disk.Disk) {
	t.Helper()
	wantNames(t, what, behind, before.Names()...)
	want(t, what, before.Crash(nil), api.OK) // now before has what was synced alone
	for _, name := range behind.Names() {
		lasts, _ := before.Read(name)
		left, err := behind.Read(name)
		if err != api.OK || !bytes.HasPrefix(left, lasts) || behind.Synced(name) != behind.Size(name) {
			t.Fatalf("%s: %s had %v synced, has %v, %d of them synced", what, name, lasts, left, behind.Synced(name))
		}
	}
}

// TestPlay: P6.1 to P6.4 over drawn acts, against a disk by hand.
func TestPlay(t *testing.T) {
	for seed := range 400 {
		play(t, fmt.Sprint("seed ", seed), draws(uint64(seed)), 120)
	}
}

// TestEveryFuse: P6.4, a row of operations is cut off at each place by the power, and crashed: what was done by then lasts, and nothing of what came behind.
func TestEveryFuse(t *testing.T) {
	acts := []act{
		{kind: "append", name: "base", bytes: "one"}, {kind: "sync", name: "base"}, {kind: "append", name: "log", bytes: "ab"},
		{kind: "sync", name: "log"}, {kind: "append", name: "log", bytes: "cd"}, {kind: "append", name: "tmp", bytes: "two"},
		{kind: "sync", name: "tmp"}, {kind: "rename", name: "tmp", to: "base"}, {kind: "cut", name: "log", n: 1},
		{kind: "append", name: "log", bytes: "ef"}, {kind: "delete", name: "base"}, {kind: "sync", name: "log"},
	}
	for fuse := range len(acts) + 1 {
		for stay := range 5 {
			d, p := made(t, 50), newPlain(50)
			want(t, "Fuse", d.Fuse(fuse), api.OK)
			for i, a := range acts {
				err := api.ErrPower
				if i < fuse {
					err = p.do(a)
				}
				want(t, fmt.Sprint("fuse ", fuse, ", act ", i), a.on(d), err)
			}
			keep := []int{stay, stay, stay}
			want(t, "Crash", d.Crash(keep), p.crash(keep))
			hold(t, fmt.Sprint("fuse ", fuse, ", stay ", stay), d, p)
		}
	}
}

// FuzzDisk: T6 at whatever arguments, on disks that were made and that were not, and P6.1 to P6.4 over acts that the bytes draw.
func FuzzDisk(f *testing.F) {
	f.Add([]byte(nil), "", "", 0, int64(0))
	f.Add([]byte("123456789"), "a", "b", 1, int64(5))
	f.Add([]byte{255, 0, 255, 7, 12, 99}, "abcdefghijklmnopq", "A", math.MinInt, int64(math.MaxInt64))
	f.Add([]byte{3, 1, 4, 1, 5, 9, 2, 6}, "z", "0", math.MaxInt, int64(math.MinInt64))
	f.Fuzz(func(t *testing.T, b []byte, name, to string, n int, size int64) {
		d, err := disk.New(size)
		if (err == api.OK) != (size >= 0 && size <= api.MaxDisk) || (d == nil) != (err != api.OK) {
			t.Fatalf("New(%d): %v, error %d", size, d, err)
		}
		for _, d := range []*disk.Disk{d, nil, {}} {
			d.Fuse(n)
			d.Append(name, b)
			d.Sync(to)
			d.Cut(name, size)
			d.Rename(name, to)
			d.Crash([]int{n, len(b)})
			d.Delete(to)
			if d.Size(name) < -1 || d.Synced(name) > d.Size(name) || d.Used() > d.Room() || !d.Same(d) || !d.Clone().Same(d) {
				t.Errorf("Size %d, Synced %d, used %d, room %d", d.Size(name), d.Synced(name), d.Used(), d.Room())
			}
		}
		i := 0
		play(t, "drawn by bytes", func(n int) int {
			if len(b) == 0 {
				return 0
			}
			i++
			return int(b[i%len(b)]^byte(i/len(b))) % n
		}, 40)
	})
}
