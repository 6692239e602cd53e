package base_test

import (
	"bytes"
	"fmt"
	"math"
	"slices"
	"testing"

	"wayfinder/api"
	"wayfinder/base"
)

// TestExample: the chapter's row.
func TestExample(t *testing.T) {
	c := api.Config{Dim: 2, Lists: 3, Words: 4, Room: 5}
	if base.IndexSize(c) != 56 || base.Size(c, 0, 0) != 58 || base.Reserve(c) != 223 {
		t.Errorf("IndexSize %d, Size %d, Reserve %d, want 56, 58, 223", base.IndexSize(c), base.Size(c, 0, 0), base.Reserve(c))
	}
}

// field is a number of a config, with its bounds.
type field struct {
	name        string
	at          func(c *api.Config) *int
	least, most int
}

// fields answers those of a config's numbers that have bounds of their own.
func fields() []field {
	return []field{
		{"Dim", func(c *api.Config) *int { return &c.Dim }, 1, 1024},
		{"Words", func(c *api.Config) *int { return &c.Words }, 1, 256},
		{"Lists", func(c *api.Config) *int { return &c.Lists }, 1, 4096},
		{"Room", func(c *api.Config) *int { return &c.Room }, 1, 1 << 24},
		{"Iters", func(c *api.Config) *int { return &c.Iters }, 1, 64},
		{"Queue", func(c *api.Config) *int { return &c.Queue }, 2, 4096},
	}
}

// TestCheckConfig: P10.1, each number at its bounds may be, just below and just above them not, nor far off.
func TestCheckConfig(t *testing.T) {
	for _, f := range fields() {
		for _, c := range []api.Config{small(), tiny(), greatest()} {
			c.Parts, c.Size = 1, maxDisk
			for _, n := range []int{f.least, f.least + 1, (f.least + f.most) / 2, f.most - 1, f.most} {
				*f.at(&c) = n
				want(t, fmt.Sprint(f.name, " ", n), base.CheckConfig(c), api.OK)
			}
			for _, n := range append(odd(), f.least-1, f.least-2, f.most+1, f.most+2, f.most*2) {
				*f.at(&c) = n
				want(t, fmt.Sprint(f.name, " ", n), base.CheckConfig(c), api.ErrArg)
			}
		}
	}
	want(t, "of noughts", base.CheckConfig(api.Config{}), api.ErrArg)
}

// TestCheckConfigParts: P10.1, Parts is from 1 on and divides Dim.
func TestCheckConfigParts(t *testing.T) {
	c := small()
	c.Size = maxDisk
	for c.Dim = 1; c.Dim <= 1024; c.Dim++ {
		for c.Parts = -2; c.Parts <= 1100; c.Parts++ {
			err := api.ErrArg
			if c.Parts > 0 && c.Dim%c.Parts == 0 {
				err = api.OK
			}
			if got := base.CheckConfig(c); got != err {
				t.Fatalf("Parts %d of Dim %d: error %d, want %d", c.Parts, c.Dim, got, err)
			}
		}
		for _, c.Parts = range append(odd(), -c.Dim) {
			want(t, fmt.Sprint("Parts ", c.Parts, " of Dim ", c.Dim), base.CheckConfig(c), api.ErrArg)
		}
	}
}

// TestCheckConfigSize: P10.1, Size is from a base of nothing and the reserve on, to MaxDisk; at the greatest numbers, too.
func TestCheckConfigSize(t *testing.T) {
	var configs []api.Config
	for _, dim := range []int{1, 2, 96, 1023, 1024} {
		for _, words := range []int{1, 5, 256} {
			for _, lists := range []int{1, 7, 4096} {
				for _, room := range []int{1, 1000, 1<<24 - 1, 1 << 24} {
					configs = append(configs, api.Config{Dim: dim, Parts: dim, Words: words, Lists: lists, Room: room, Iters: 3, Queue: 9})
				}
			}
		}
	}
	for _, c := range append(configs, small(), tiny(), greatest()) {
		least := needed(c).Int64()
		for _, c.Size = range []int64{least, least + 1, (least + maxDisk) / 2, maxDisk - 1, maxDisk} {
			want(t, fmt.Sprint(c), base.CheckConfig(c), api.OK)
		}
		for _, c.Size = range []int64{least - 1, least - 58, least / 2, 1, 0, -1, -least, math.MinInt64, maxDisk + 1, maxDisk + least, 1<<32 + maxDisk, 1 << 62, math.MaxInt64} {
			want(t, fmt.Sprint(c), base.CheckConfig(c), api.ErrArg)
		}
	}
}

// sizes answers what of a base Size is asked.
func sizes(c api.Config) (points, index []int) {
	i := indexByHand(c)
	points = append(odd(), 0, 1, 2, c.Room-1, c.Room, c.Room+1, maxRoom, maxRoom+1)
	index = append(odd(), 0, 1, i-1, i, i+1, -i, 2*i, 56, 1<<32+i)
	return points, index
}

// wantSizes holds IndexSize, Reserve and Size of the config against what they should be.
func wantSizes(t *testing.T, c api.Config) {
	t.Helper()
	if got := base.IndexSize(c); got != indexByHand(c) {
		t.Errorf("IndexSize of %v: %d, want %d", c, got, indexByHand(c))
	}
	if got, reserve := base.Reserve(c), sizeByHand(c, c.Room, indexByHand(c)); got != reserve {
		t.Errorf("Reserve of %v: %d, want %d", c, got, reserve)
	}
	points, index := sizes(c)
	for _, p := range points {
		for _, i := range index {
			if got := base.Size(c, p, i); got != sizeByHand(c, p, i) {
				t.Errorf("Size of %v, %d, %d: %d, want %d", c, p, i, got, sizeByHand(c, p, i))
			}
		}
	}
}

// TestSizes: P10.1, IndexSize, Reserve and Size are as told; 0 of a Dim, Words, Lists or Room beyond its bounds, of points and an index that may not be.
func TestSizes(t *testing.T) {
	for _, c := range []api.Config{small(), tiny(), greatest(), {Dim: 1024, Words: 1, Lists: 1, Room: 1}, {Dim: 1, Words: 256, Lists: 1, Room: 1}, {Dim: 1, Words: 1, Lists: 4096, Room: 1}, {Dim: 1, Words: 1, Lists: 1, Room: maxRoom}} {
		for _, f := range fields() {
			c := c
			wantSizes(t, c)
			for _, n := range append(odd(), 0, 1, 2, f.least-1, f.least, f.most-1, f.most, f.most+1) {
				*f.at(&c) = n
				wantSizes(t, c)
			}
		}
	}
	if got := base.Reserve(greatest()); got != 58+9+4*1024*4352+2064<<24 {
		t.Errorf("Reserve of the greatest: %d", got)
	}
}

// TestSizesOfOthers: P10.1, neither Parts nor Iters nor Queue nor Size tells anything of how many bytes there are.
func TestSizesOfOthers(t *testing.T) {
	for _, n := range append(odd(), 0, 1, 3) {
		c := small()
		c.Parts, c.Iters, c.Queue, c.Size = n, n, n, int64(n)
		if base.IndexSize(c) != 56 || base.Size(c, 2, 56) != 163 || base.Reserve(c) != 223 {
			t.Errorf("of others %d: %d, %d, %d", n, base.IndexSize(c), base.Size(c, 2, 56), base.Reserve(c))
		}
	}
}

// TestCheck: P10.1, each base that may be is OK, and has its bytes, as many as Size tells, which are read again.
func TestCheck(t *testing.T) {
	for what, b := range some() {
		wantBase(t, what, b)
	}
}

// wantBase holds Check, Bytes and Parse of a base that may be.
func wantBase(t *testing.T, what string, b api.Base) {
	t.Helper()
	want(t, what, base.Check(b), api.OK)
	x, err := base.Bytes(b)
	if err != api.OK || !bytes.Equal(x, bytesOf(b)) {
		t.Errorf("%s: Bytes tells %v, error %d, want %v", what, x, err, bytesOf(b))
	}
	if int64(len(x)) != base.Size(b.Config, len(b.Points), len(b.Index)) || int64(len(x)) > base.Reserve(b.Config) {
		t.Errorf("%s: %d bytes, of which Size and Reserve tell otherwise", what, len(x))
	}
	wantParse(t, what, x, b, true)
}

// wantNoBase holds that Check, Bytes and Write's first step tell this error of a base, and that its bytes are no base's.
func wantNoBase(t *testing.T, what string, b api.Base, err api.Errno) {
	t.Helper()
	want(t, what+": Check", base.Check(b), err)
	if x, e := base.Bytes(b); len(x) != 0 || e != err {
		t.Errorf("%s: Bytes tells %v, error %d, want error %d", what, x, e, err)
	}
	d := empty(t, 1<<20)
	lay(t, d, "next", []byte{1}, []byte{2})
	want(t, what, d.Fuse(7), api.OK)
	kept := d.Clone()
	want(t, what+": Write", base.Write(d, b), err)
	wantSame(t, what+": Write", d, kept)
	wantParse(t, what, bytesOf(b), api.Base{}, false)
}

// TestCheckConfigOfBase: P10.1, CheckConfig's error is Check's.
func TestCheckConfigOfBase(t *testing.T) {
	for _, f := range fields() {
		b := api.Base{Config: small()}
		b.Config.Size = maxDisk
		for _, *f.at(&b.Config) = range []int{f.least - 1, f.most + 1} {
			wantNoBase(t, f.name, b, api.ErrArg)
		}
	}
	b := api.Base{Config: small()}
	b.Config.Parts = 3
	wantNoBase(t, "Parts", b, api.ErrArg)
	for _, size := range []int64{280, 0, -1, math.MinInt64, maxDisk + 1} {
		b := api.Base{Config: small()}
		b.Config.Size = size
		wantNoBase(t, fmt.Sprint("Size ", size), b, api.ErrArg)
	}
}

// TestCheckSeq: P10.1, a Seq is from 0 to 2^62.
func TestCheckSeq(t *testing.T) {
	for _, seq := range []uint64{0, 1, 1<<32 - 1, 1 << 32, 1 << 61, lastSeq - 1, lastSeq} {
		wantBase(t, fmt.Sprint("Seq ", seq), api.Base{Seq: seq, Config: small()})
	}
	for _, seq := range []uint64{lastSeq + 1, lastSeq + 2, 1<<63 - 1, 1 << 63, math.MaxUint64} {
		wantNoBase(t, fmt.Sprint("Seq ", seq), api.Base{Seq: seq, Config: small()}, api.ErrRange)
	}
}

// TestCheckIndex: P10.1, an index is none, or has just its size.
func TestCheckIndex(t *testing.T) {
	for n := range 120 {
		b := api.Base{Config: small(), Index: rising(n), Points: points(2, 2)}
		if n == 0 || n == 56 {
			wantBase(t, fmt.Sprint("an index of ", n), b)
			continue
		}
		wantNoBase(t, fmt.Sprint("an index of ", n), b, api.ErrArg)
	}
}

// TestCheckRoom: P10.1, at most Room points.
func TestCheckRoom(t *testing.T) {
	for room := 1; room < 9; room++ {
		for n := range 12 {
			b := api.Base{Config: small(), Points: points(n, 2)}
			b.Config.Room, b.Config.Size = room, 1000
			if n <= room {
				wantBase(t, fmt.Sprint(n, " points of ", room), b)
				continue
			}
			wantNoBase(t, fmt.Sprint(n, " points of ", room), b, api.ErrLong)
		}
	}
}

// TestCheckPoints: P10.1, IDs are from 1 on and rise; each vector is a raw one of Dim.
func TestCheckPoints(t *testing.T) {
	v := []int16{1, 2}
	for _, ids := range [][]int64{{1}, {math.MaxInt64}, {1, 2}, {7, 1 << 33, 1<<33 + 1}, {1, 2, 3, 4, 5}} {
		b := api.Base{Config: small()}
		for _, id := range ids {
			b.Points = append(b.Points, api.Point{ID: id, Vec: v})
		}
		wantBase(t, fmt.Sprint("IDs ", ids), b)
	}
	for _, ids := range [][]int64{{0}, {-1}, {math.MinInt64}, {0, 1}, {-1, 1}, {1, 1}, {2, 1}, {1, 0}, {1, 2, 2}, {1, 3, 2}, {5, 6, 7, 8, -9}, {math.MaxInt64, math.MinInt64}, {math.MaxInt64, math.MaxInt64}, {1 << 32, 1}} {
		b := api.Base{Config: small()}
		for _, id := range ids {
			b.Points = append(b.Points, api.Point{ID: id, Vec: v})
		}
		wantNoBase(t, fmt.Sprint("IDs ", ids), b, api.ErrArg)
	}
	for at := range 5 {
		for _, v := range [][]int16{nil, {}, {1}, {1, 2, 3}, make([]int16, 4), make([]int16, 1024), make([]int16, 1025)} {
			b := api.Base{Config: small(), Index: rising(56), Points: points(5, 2)}
			b.Points[at].Vec = v
			wantNoBase(t, fmt.Sprint("a vector of ", len(v), " at ", at), b, api.ErrArg)
		}
	}
}

// TestCheckOrder: P10.1, of what is wrong the first is told: config, Seq, Index, how many points, a point.
func TestCheckOrder(t *testing.T) {
	faults := []struct {
		err  api.Errno
		make func(b *api.Base)
	}{
		{api.ErrArg, func(b *api.Base) { b.Config.Queue = 1 }},
		{api.ErrRange, func(b *api.Base) { b.Seq = lastSeq + 1 }},
		{api.ErrArg, func(b *api.Base) { b.Index = rising(55) }},
		{api.ErrLong, func(b *api.Base) { b.Points = append(b.Points, api.Point{ID: 999, Vec: []int16{1, 2}}) }},
		{api.ErrArg, func(b *api.Base) { b.Points[3].ID = 1 }},
		{api.ErrArg, func(b *api.Base) { b.Points[0].Vec = nil }},
	}
	for set := range 1 << len(faults) {
		b := api.Base{Config: small(), Index: rising(56), Points: points(5, 2)}
		err := api.OK
		for i, f := range faults {
			if set>>i&1 == 1 {
				f.make(&b)
			}
			if set>>i&1 == 1 && err == api.OK {
				err = f.err
			}
		}
		if err == api.OK {
			wantBase(t, "no fault", b)
			continue
		}
		wantNoBase(t, fmt.Sprintf("faults %b", set), b, err)
	}
}

// TestBytes: P10.1, the bytes of a base, written out.
func TestBytes(t *testing.T) {
	b := api.Base{Seq: 0x0102030405060708, Config: tiny(), Index: []byte{9, 8, 7, 6, 5, 4, 3, 2}, Points: []api.Point{{ID: 0x1112131415161718, Vec: []int16{-2}}}}
	b.Config.Size = 0x0123456789
	head := []byte{1, 8, 7, 6, 5, 4, 3, 2, 1, 1, 0, 0, 0, 1, 0, 0, 0, 1, 0, 0, 0, 1, 0, 0, 0, 1, 0, 0, 0, 1, 0, 0, 0, 2, 0, 0, 0, 0x89, 0x67, 0x45, 0x23, 1, 0, 0, 0, 1, 0, 0, 0, 1}
	x := joined([][]byte{head, {2, 9, 8, 7, 6, 5, 4, 3, 2}, {0x18, 0x17, 0x16, 0x15, 0x14, 0x13, 0x12, 0x11, 254, 255}})
	if got, err := base.Bytes(b); err != api.OK || !bytes.Equal(got, x) {
		t.Errorf("Bytes: %v, error %d, want %v", got, err, x)
	}
	wantParse(t, "written out", x, b, true)
	// Each number of the config is another one: none stands in the place of another.
	c := api.Config{Dim: 12, Parts: 3, Words: 7, Lists: 5, Room: 1000, Iters: 9, Queue: 300, Size: 1 << 20}
	wantBase(t, "all others", api.Base{Seq: 6, Config: c, Index: rising(4 * 12 * 12), Points: points(20, 12)})
}

// TestGreatest: P10.1, an index of the greatest size goes into one frame, beside vectors of the greatest dim.
func TestGreatest(t *testing.T) {
	b := api.Base{Seq: lastSeq, Config: greatest(), Index: rising(4 * 1024 * 4352), Points: points(100, 1024)}
	x, err := base.Bytes(b)
	if err != api.OK || int64(len(x)) != sizeByHand(b.Config, 100, len(b.Index)) || !bytes.Equal(x, bytesOf(b)) {
		t.Errorf("the greatest: %d bytes, error %d", len(x), err)
	}
	if got, err := base.Parse(x); err != api.OK || !sameByHand(got, b) {
		t.Errorf("the greatest: Parse tells error %d", err)
	}
	b.Index = append(b.Index, 0)
	want(t, "an index of a byte more", base.Check(b), api.ErrArg)
}

// TestSame: P10.1, of bases that differ in one thing alone; nil is as good as empty.
func TestSame(t *testing.T) {
	changes := map[string]func(b *api.Base){
		"Seq":           func(b *api.Base) { b.Seq++ },
		"Dim":           func(b *api.Base) { b.Config.Dim++ },
		"Parts":         func(b *api.Base) { b.Config.Parts++ },
		"Words":         func(b *api.Base) { b.Config.Words++ },
		"Lists":         func(b *api.Base) { b.Config.Lists++ },
		"Room":          func(b *api.Base) { b.Config.Room++ },
		"Iters":         func(b *api.Base) { b.Config.Iters++ },
		"Queue":         func(b *api.Base) { b.Config.Queue++ },
		"Size":          func(b *api.Base) { b.Config.Size++ },
		"no index":      func(b *api.Base) { b.Index = nil },
		"first byte":    func(b *api.Base) { b.Index[0]++ },
		"last byte":     func(b *api.Base) { b.Index[55]++ },
		"byte less":     func(b *api.Base) { b.Index = b.Index[:55] },
		"byte more":     func(b *api.Base) { b.Index = append(b.Index, 0) },
		"no points":     func(b *api.Base) { b.Points = nil },
		"point less":    func(b *api.Base) { b.Points = b.Points[:2] },
		"first missing": func(b *api.Base) { b.Points = b.Points[1:] },
		"point more":    func(b *api.Base) { b.Points = append(b.Points, api.Point{}) },
		"an ID":         func(b *api.Base) { b.Points[2].ID++ },
		"first ID":      func(b *api.Base) { b.Points[0].ID = 0 },
		"a number":      func(b *api.Base) { b.Points[1].Vec[1]++ },
		"no vector":     func(b *api.Base) { b.Points[0].Vec = nil },
		"number less":   func(b *api.Base) { b.Points[2].Vec = b.Points[2].Vec[:1] },
		"number more":   func(b *api.Base) { b.Points[2].Vec = append(b.Points[2].Vec, 0) },
		"turned round":  func(b *api.Base) { slices.Reverse(b.Points) },
	}
	one := api.Base{Seq: 4, Config: small(), Index: rising(56), Points: points(3, 2)}
	if !base.Same(one, cloned(one)) || !base.Same(api.Base{}, api.Base{}) {
		t.Error("a base is another one than itself")
	}
	for what, change := range changes {
		b := cloned(one)
		change(&b)
		if base.Same(one, b) || base.Same(b, one) || !base.Same(b, cloned(b)) {
			t.Errorf("%s: Same tells otherwise", what)
		}
	}
	if !base.Same(api.Base{Index: []byte{}, Points: []api.Point{}}, api.Base{}) || !base.Same(api.Base{Points: []api.Point{{ID: 1, Vec: []int16{}}}}, api.Base{Points: []api.Point{{ID: 1}}}) {
		t.Error("nil is another one than empty")
	}
	for what, a := range some() {
		for other, b := range some() {
			if base.Same(a, b) != (what == other) {
				t.Errorf("%s and %s: Same tells otherwise", what, other)
			}
		}
	}
}
