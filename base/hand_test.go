package base_test

import (
	"bytes"
	"encoding/binary"
	"hash/crc32"
	"math"
	"math/big"
	"slices"
	"testing"

	"wayfinder/api"
	"wayfinder/base"
	"wayfinder/disk"
)

// Limits as the chapter and the document tell them.
const (
	lastSeq = uint64(1) << 62
	maxDisk = int64(1) << 40
	maxRoom = 1 << 24
)

// odd answers numbers that are no config's.
func odd() []int {
	return []int{math.MinInt, math.MinInt + 1, -1 << 62, -1 << 32, 1 - 1<<32, -1 << 31, -2, -1, 1 << 25, 1<<31 - 1, 1 << 31, 1<<32 - 1, 1 << 32, 1<<32 + 2, 1 << 40, 1<<40 + 1, 1 << 48, 1 << 62, math.MaxInt - 1, math.MaxInt}
}

// small answers the example's config, with the least Size that may be.
func small() api.Config {
	return api.Config{Dim: 2, Parts: 1, Words: 4, Lists: 3, Room: 5, Iters: 1, Queue: 2, Size: 281}
}

// tiny answers the config of which every number is the least.
func tiny() api.Config {
	return api.Config{Dim: 1, Parts: 1, Words: 1, Lists: 1, Room: 1, Iters: 1, Queue: 2, Size: 58 + 58 + 17 + 18}
}

// greatest answers the config of which every number is the greatest.
func greatest() api.Config {
	return api.Config{Dim: 1024, Parts: 1024, Words: 256, Lists: 4096, Room: maxRoom, Iters: 64, Queue: 4096, Size: maxDisk}
}

// needed answers what the chapter asks of Size at least: a base of nothing and the reserve, worked out in numbers without an end.
func needed(c api.Config) *big.Int {
	n := func(x int) *big.Int { return big.NewInt(int64(x)) }
	index := n(0).Mul(n(4*c.Dim), n(c.Lists+c.Words))
	points := n(0).Mul(n(c.Room), n(8+8+2*c.Dim))
	sum := n(58 + 58 + 8 + 1)
	return sum.Add(sum, index.Add(index, points))
}

// sizedByHand tells whether the numbers may be that sizes come from.
func sizedByHand(c api.Config) bool {
	return c.Dim >= 1 && c.Dim <= 1024 && c.Words >= 1 && c.Words <= 256 && c.Lists >= 1 && c.Lists <= 4096 && c.Room >= 1 && c.Room <= 1<<24
}

// configByHand tells whether the config may be.
func configByHand(c api.Config) bool {
	if !sizedByHand(c) || c.Parts < 1 || c.Parts > c.Dim || c.Dim/c.Parts*c.Parts != c.Dim {
		return false
	}
	if c.Iters < 1 || c.Iters > 64 || c.Queue < 2 || c.Queue > 4096 || c.Size > maxDisk {
		return false
	}
	return big.NewInt(c.Size).Cmp(needed(c)) >= 0
}

// indexByHand answers how many bytes an index has.
func indexByHand(c api.Config) int {
	if !sizedByHand(c) {
		return 0
	}
	return 4 * c.Dim * (c.Lists + c.Words)
}

// sizeByHand answers how many bytes a base has.
func sizeByHand(c api.Config, points, index int) int64 {
	if !sizedByHand(c) || points < 0 || points > c.Room || index != 0 && index != indexByHand(c) {
		return 0
	}
	size := int64(58)
	if index != 0 {
		size += int64(9 + index)
	}
	return size + int64(points)*int64(16+2*c.Dim)
}

// checkByHand answers what Check should.
func checkByHand(b api.Base) api.Errno {
	if !configByHand(b.Config) {
		return api.ErrArg
	}
	if b.Seq > lastSeq {
		return api.ErrRange
	}
	if len(b.Index) != 0 && len(b.Index) != indexByHand(b.Config) {
		return api.ErrArg
	}
	if len(b.Points) > b.Config.Room {
		return api.ErrLong
	}
	for i, p := range b.Points {
		if p.ID < 1 || i > 0 && p.ID <= b.Points[i-1].ID || len(p.Vec) != b.Config.Dim {
			return api.ErrArg
		}
	}
	return api.OK
}

// framed answers the payload's frame as chapter 7 tells it.
func framed(payload []byte) []byte {
	length := binary.LittleEndian.AppendUint32(nil, uint32(len(payload)))
	sum := crc32.Checksum(slices.Concat(length, payload), crc32.MakeTable(crc32.Castagnoli))
	return slices.Concat(binary.LittleEndian.AppendUint32(length, sum), payload)
}

// payloadsOf answers the payloads of the base's frames, also of one that may not be.
func payloadsOf(b api.Base) [][]byte {
	c := b.Config
	head := binary.LittleEndian.AppendUint64([]byte{1}, b.Seq)
	for _, n := range []int{c.Dim, c.Parts, c.Words, c.Lists, c.Room, c.Iters, c.Queue} {
		head = binary.LittleEndian.AppendUint32(head, uint32(n))
	}
	head = binary.LittleEndian.AppendUint64(head, uint64(c.Size))
	head = binary.LittleEndian.AppendUint32(head, uint32(len(b.Points)))
	payloads := [][]byte{append(head, 0)}
	if len(b.Index) > 0 {
		payloads[0][49] = 1
		payloads = append(payloads, slices.Concat([]byte{2}, b.Index))
	}
	for _, p := range b.Points {
		payloads = append(payloads, pointOf(p))
	}
	return payloads
}

// pointOf answers the payload of the point.
func pointOf(p api.Point) []byte {
	b := binary.LittleEndian.AppendUint64(nil, uint64(p.ID))
	for _, x := range p.Vec {
		b = binary.LittleEndian.AppendUint16(b, uint16(x))
	}
	return b
}

// framesOf answers the frames of the payloads.
func framesOf(payloads [][]byte) [][]byte {
	var frames [][]byte
	for _, p := range payloads {
		frames = append(frames, framed(p))
	}
	return frames
}

// joined answers the bytes of the payloads' frames.
func joined(payloads [][]byte) []byte {
	return slices.Concat(framesOf(payloads)...)
}

// bytesOf answers the base's bytes.
func bytesOf(b api.Base) []byte {
	return joined(payloadsOf(b))
}

// parsedByHand answers the base of the payloads, and whether there is one.
func parsedByHand(payloads [][]byte) (api.Base, bool) {
	if len(payloads) == 0 || len(payloads[0]) != 50 || payloads[0][0] != 1 || payloads[0][49] > 1 {
		return api.Base{}, false
	}
	head, rest := payloads[0], payloads[1:]
	at := func(i int) int { return int(binary.LittleEndian.Uint32(head[i:])) }
	b := api.Base{Seq: binary.LittleEndian.Uint64(head[1:])}
	b.Config = api.Config{Dim: at(9), Parts: at(13), Words: at(17), Lists: at(21), Room: at(25), Iters: at(29), Queue: at(33)}
	b.Config.Size = int64(binary.LittleEndian.Uint64(head[37:]))
	if head[49] == 1 {
		if len(rest) == 0 || len(rest[0]) < 2 || rest[0][0] != 2 {
			return api.Base{}, false
		}
		b.Index, rest = rest[0][1:], rest[1:]
	}
	if len(rest) != at(45) {
		return api.Base{}, false
	}
	for _, p := range rest {
		if len(p) != 8+2*b.Config.Dim {
			return api.Base{}, false
		}
		point := api.Point{ID: int64(binary.LittleEndian.Uint64(p))}
		for i := 8; i < len(p); i += 2 {
			point.Vec = append(point.Vec, int16(binary.LittleEndian.Uint16(p[i:])))
		}
		b.Points = append(b.Points, point)
	}
	return b, checkByHand(b) == api.OK
}

// sameByHand tells whether both are the same base, nil being as good as empty.
func sameByHand(a, b api.Base) bool {
	return a.Seq == b.Seq && a.Config == b.Config && bytes.Equal(a.Index, b.Index) && slices.EqualFunc(a.Points, b.Points, func(p, q api.Point) bool {
		return p.ID == q.ID && slices.Equal(p.Vec, q.Vec)
	})
}

// cloned answers a base of its own that is the same.
func cloned(b api.Base) api.Base {
	b.Index = bytes.Clone(b.Index)
	b.Points = slices.Clone(b.Points)
	for i := range b.Points {
		b.Points[i].Vec = slices.Clone(b.Points[i].Vec)
	}
	return b
}

// rising answers bytes that are all another than the ones beside them.
func rising(n int) []byte {
	b := make([]byte, n)
	for i := range b {
		b[i] = byte(i*7 + 3)
	}
	return b
}

// points answers n points of dim numbers.
func points(n, dim int) []api.Point {
	var list []api.Point
	for i := range n {
		v := make([]int16, dim)
		for j := range v {
			v[j] = int16(i*1000 - j*3000 - 1)
		}
		list = append(list, api.Point{ID: int64(i*i*i + 1), Vec: v})
	}
	return list
}

// some answers bases by name that may be.
func some() map[string]api.Base {
	wide := api.Config{Dim: 12, Parts: 4, Words: 2, Lists: 1, Room: 9, Iters: 64, Queue: 4096, Size: maxDisk}
	far := []api.Point{{ID: 1, Vec: []int16{-32768, 32767}}, {ID: 1 << 32, Vec: []int16{0, 0}}, {ID: math.MaxInt64 - 1, Vec: []int16{0, 0}}, {ID: math.MaxInt64, Vec: []int16{-1, 1}}}
	return map[string]api.Base{
		"nothing":       {Config: small()},
		"an index":      {Seq: 1, Config: small(), Index: rising(56)},
		"a point":       {Seq: lastSeq, Config: small(), Points: points(1, 2)},
		"both":          {Seq: 1 << 40, Config: small(), Index: make([]byte, 56), Points: points(3, 2)},
		"all there may": {Seq: lastSeq - 1, Config: small(), Index: rising(56), Points: points(5, 2)},
		"far ids":       {Seq: 255, Config: small(), Points: far},
		"the least":     {Config: tiny(), Index: rising(8), Points: points(1, 1)},
		"wider":         {Seq: 77, Config: wide, Index: rising(144), Points: points(7, 12)},
	}
}

// want holds an error against the one that should be.
func want(t *testing.T, what string, got, want api.Errno) {
	t.Helper()
	if got != want {
		t.Errorf("%s: error %d, want %d", what, got, want)
	}
}

// wantParse holds what Parse answers against what it should: a base, or, if there is none, nothing.
func wantParse(t *testing.T, what string, b []byte, is api.Base, ok bool) {
	t.Helper()
	got, err := base.Parse(b)
	if ok && (err != api.OK || !sameByHand(got, is)) {
		t.Errorf("%s: Parse tells %v, error %d, want %v", what, got, err, is)
	}
	if !ok && (err != api.ErrBad || !sameByHand(got, api.Base{})) {
		t.Errorf("%s: Parse tells %v, error %d, want error %d", what, got, err, api.ErrBad)
	}
}

// wantRead holds what Read answers against what it should: a base, or, with an error, nothing; and it changes nothing.
func wantRead(t *testing.T, what string, d *disk.Disk, is api.Base, err api.Errno) {
	t.Helper()
	kept := d.Clone()
	if err != api.OK {
		is = api.Base{}
	}
	if got, e := base.Read(d); e != err || !sameByHand(got, is) {
		t.Errorf("%s: Read tells %v, error %d, want %v, error %d", what, got, e, is, err)
	}
	wantSame(t, what+": Read", d, kept)
}

// wantSame holds that d is as it was when kept was cloned of it.
func wantSame(t *testing.T, what string, d, kept *disk.Disk) {
	t.Helper()
	if !d.Same(kept) {
		t.Errorf("%s: the disk is another one than it should be", what)
	}
}

// empty answers a disk of that room without files.
func empty(t *testing.T, room int64) *disk.Disk {
	t.Helper()
	d, err := disk.New(room)
	want(t, "New", err, api.OK)
	return d
}

// lay puts a file of these bytes on the disk, the first ones of them synced.
func lay(t *testing.T, d *disk.Disk, name string, synced, behind []byte) {
	t.Helper()
	want(t, "Append to "+name, d.Append(name, synced), api.OK)
	want(t, "Sync of "+name, d.Sync(name), api.OK)
	want(t, "Append to "+name, d.Append(name, behind), api.OK)
}

// writtenByHand does what Write should on the disk, and answers its error.
func writtenByHand(d *disk.Disk, b api.Base) api.Errno {
	if d.Size("next") >= 0 {
		if err := d.Delete("next"); err != api.OK {
			return err
		}
	}
	for _, f := range framesOf(payloadsOf(b)) {
		if err := d.Append("next", f); err != api.OK {
			return err
		}
	}
	if err := d.Sync("next"); err != api.OK {
		return err
	}
	return d.Rename("next", "base")
}

// unmade answers disks that nobody made.
func unmade() map[string]*disk.Disk {
	return map[string]*disk.Disk{"nil": nil, "a pointer to none": {}}
}

// draws answers a function that tells numbers from 0 to below n, always the same ones.
func draws(seed uint64) func(n int) int {
	return func(n int) int {
		seed = seed*6364136223846793005 + 1442695040888963407
		return int(seed>>33) % n
	}
}
