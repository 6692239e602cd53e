package base_test

import (
	"bytes"
	"slices"
	"testing"

	"wayfinder/api"
	"wayfinder/base"
)

// roomy answers the same base, all of whose lists have spare room with something in it.
func roomy(b api.Base) api.Base {
	b.Index = append(bytes.Clone(b.Index), "spare room"...)[:len(b.Index)]
	b.Points = append(slices.Clone(b.Points), api.Point{ID: 1 << 50, Vec: []int16{1, 2, 3}}, api.Point{ID: 5})[:len(b.Points)]
	for i, p := range b.Points {
		b.Points[i].Vec = append(slices.Clone(p.Vec), 7, 7, 7, 7)[:len(p.Vec)]
	}
	return b
}

// spoil changes all that the base has, its spare room too.
func spoil(b api.Base) {
	all := b.Points[:cap(b.Points)]
	for i, p := range all {
		vec := p.Vec[:cap(p.Vec)]
		for j := range vec {
			vec[j] ^= 99
		}
		all[i].ID ^= 99
	}
	clear(all)
	fill(b.Index, 99)
}

// fill changes all bytes, those of the spare room too.
func fill(b []byte, by byte) {
	b = b[:cap(b)]
	for i := range b {
		b[i] ^= by
	}
}

// whole answers the same base with the spare room of all its lists taken.
func whole(b api.Base) api.Base {
	b.Index = b.Index[:cap(b.Index)]
	b.Points = slices.Clone(b.Points[:cap(b.Points)])
	for i, p := range b.Points {
		b.Points[i].Vec = p.Vec[:cap(p.Vec)]
	}
	return b
}

// TestHandedIn: rule 3, no call changes the base that it is handed, nor the spare room of its lists.
func TestHandedIn(t *testing.T) {
	for what, b := range some() {
		in := roomy(b)
		kept := cloned(whole(in))
		want(t, what, base.Check(in), api.OK)
		x, err := base.Bytes(in)
		if err != api.OK || !bytes.Equal(x, bytesOf(b)) {
			t.Errorf("%s: Bytes tells %v, error %d", what, x, err)
		}
		d := empty(t, 1<<20)
		want(t, what, base.Write(d, in), api.OK)
		if !base.Same(in, b) || !base.Same(b, in) {
			t.Errorf("%s: Same looks at spare room", what)
		}
		if !sameByHand(whole(in), kept) {
			t.Errorf("%s: what was handed in was changed", what)
		}
		// Neither what was told of it nor the disk looks at it later.
		spoil(in)
		if !bytes.Equal(x, bytesOf(b)) {
			t.Errorf("%s: Bytes' answer hangs on what was handed in", what)
		}
		wantRead(t, what+", what was handed in is changed", d, b, api.OK)
	}
}

// TestBytesOfItsOwn: rule 3, whoever changes Bytes' answer changes nothing else.
func TestBytesOfItsOwn(t *testing.T) {
	for what, b := range some() {
		kept := cloned(b)
		x, _ := base.Bytes(b)
		y, _ := base.Bytes(b)
		fill(x, 55)
		if !sameByHand(b, kept) || !bytes.Equal(y, bytesOf(b)) {
			t.Errorf("%s: what is done to Bytes' answer is seen elsewhere", what)
		}
	}
}

// TestParseOfItsOwn: rule 3, Parse's answer hangs on nothing that was handed in, and no two lists of it share memory.
func TestParseOfItsOwn(t *testing.T) {
	for what, b := range some() {
		x := append(bytesOf(b), "spare room"...)
		in := x[:len(x)-10]
		kept := bytes.Clone(x)
		one, _ := base.Parse(in)
		two, _ := base.Parse(in)
		wantApart(t, what, one, b)
		if !sameByHand(two, b) || !bytes.Equal(x, kept) {
			t.Errorf("%s: what is done to Parse's answer is seen elsewhere", what)
		}
		fill(x, 44)
		if !sameByHand(two, b) {
			t.Errorf("%s: Parse's answer hangs on what was handed in", what)
		}
	}
}

// wantApart changes one list of got after the other, its spare room too, and holds that all others stay as b has them.
func wantApart(t *testing.T, what string, got, b api.Base) {
	t.Helper()
	fill(got.Index, 33)
	got.Index = b.Index
	if !sameByHand(got, b) {
		t.Errorf("%s: what is done to the index is seen elsewhere", what)
	}
	for i, p := range got.Points {
		vec := p.Vec[:cap(p.Vec)]
		for j := range vec {
			vec[j] ^= 33
		}
		got.Points[i].Vec = b.Points[i].Vec
		if !sameByHand(got, b) {
			t.Errorf("%s: what is done to vector %d is seen elsewhere", what, i)
		}
	}
	clear(got.Points[:cap(got.Points)])
}

// TestReadOfItsOwn: rule 3, Read's answer hangs on the disk no more, and the disk not on it.
func TestReadOfItsOwn(t *testing.T) {
	for what, b := range some() {
		d := empty(t, 1<<20)
		want(t, what, base.Write(d, b), api.OK)
		kept := d.Clone()
		one, err := base.Read(d)
		want(t, what, err, api.OK)
		two, err := base.Read(d)
		want(t, what, err, api.OK)
		wantApart(t, what, one, b)
		wantSame(t, what, d, kept)
		want(t, what, base.Write(d, old()), api.OK)
		want(t, what, d.Append("base", []byte{1}), api.OK)
		if !sameByHand(two, b) {
			t.Errorf("%s: Read's answer hangs on the disk", what)
		}
	}
}

// TestAgain: T6, what a call answers hangs on its arguments alone: asked again, in any order, it is the same.
func TestAgain(t *testing.T) {
	for range 3 {
		for what, b := range some() {
			wantBase(t, what, b)
		}
		wantNoBase(t, "a Seq", api.Base{Seq: lastSeq + 1, Config: small()}, api.ErrRange)
		wantNoBase(t, "of noughts", api.Base{}, api.ErrArg)
	}
}
