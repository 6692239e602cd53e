package octet_test

import (
	"bytes"
	"fmt"
	"math"
	"math/big"
	"testing"

	"wayfinder/api"
	"wayfinder/octet"
)

// sizes are the n that the chapter names, those about them, and the utmost ones.
var sizes = []int{math.MinInt, -9, -8, -1, 0, 1, 2, 3, 4, 5, 6, 7, 8, 9, 16, 64, math.MaxInt - 1, math.MaxInt}

// numbers are those at which a byte or a sign turns.
func numbers() []uint64 {
	all := []uint64{0, 258, 0x0123456789abcdef, 0xfedcba9876543210}
	for bit := range 64 {
		one := uint64(1) << bit
		all = append(all, one-1, one, one+1, -one, ^one)
	}
	return all
}

// lowBytes tells x's n low bytes by division, as the document's words do.
func lowBytes(x uint64, n int) []byte {
	var low []byte
	for ; n > 0; n-- {
		low = append(low, byte(x%256))
		x /= 256
	}
	return low
}

// valueOf tells the number of at most 8 bytes by sums of powers of 256.
func valueOf(b []byte) uint64 {
	value, power := uint64(0), uint64(1)
	for _, digit := range b {
		value += uint64(digit) * power
		power *= 256
	}
	return value
}

// signedOf tells the signed number of x's n low bytes without a width.
func signedOf(x uint64, n int) int64 {
	span := new(big.Int).Lsh(big.NewInt(1), uint(8*n))
	value := new(big.Int).Mod(new(big.Int).SetUint64(x), span)
	if new(big.Int).Lsh(value, 1).Cmp(span) >= 0 {
		value.Sub(value, span)
	}
	return value.Int64()
}

func clamped(n int) int {
	if n < 0 {
		return 0
	}
	if n > 8 {
		return 8
	}
	return n
}

// fill writes over all that a list reaches, its spare room too.
func fill(b []byte, with byte) {
	b = b[:cap(b)]
	for i := range b {
		b[i] = with
	}
}

func wantBytes(t *testing.T, what string, got, want []byte) {
	t.Helper()
	if !bytes.Equal(got, want) {
		t.Errorf("%s: got %v, want %v", what, got, want)
	}
}

func wantErr(t *testing.T, what string, got, want api.Errno) {
	t.Helper()
	if got != want {
		t.Errorf("%s: got error %d, want %d", what, got, want)
	}
}

// P1.1: the chapter's examples.
func TestExamples(t *testing.T) {
	wantBytes(t, "Put of 258, 2", octet.Put(nil, 258, 2), []byte{2, 1})
	if got := octet.Of([]byte{2, 1, 0}); got != 258 {
		t.Errorf("Of 2, 1, 0: got %d", got)
	}
	if got := octet.Signed(255, 1); got != -1 {
		t.Errorf("Signed of 255, 1: got %d", got)
	}
	if got := octet.Signed(255, 2); got != 255 {
		t.Errorf("Signed of 255, 2: got %d", got)
	}
}

// P1.1: Put has b, then x's n low bytes, with n below 0 as 0, above 8 as 8.
func TestPut(t *testing.T) {
	for _, b := range [][]byte{nil, {}, {9}, {1, 2, 3, 4, 5, 6, 7, 8, 9}} {
		for _, n := range sizes {
			for _, x := range numbers() {
				want := append(bytes.Clone(b), lowBytes(x, clamped(n))...)
				wantBytes(t, fmt.Sprintf("Put(%v, %d, %d)", b, x, n), octet.Put(b, x, n), want)
			}
		}
	}
}

// P1.1: Of takes the first 8 bytes, or what there is.
func TestOf(t *testing.T) {
	for _, x := range numbers() {
		for n := range 9 {
			b := lowBytes(x, n)
			if got, want := octet.Of(b), valueOf(b); got != want {
				t.Errorf("Of(%v): got %d, want %d", b, got, want)
			}
		}
		long := append(lowBytes(x, 8), 1, 2, 3)
		if got := octet.Of(long); got != x {
			t.Errorf("Of(%v): got %d, want %d", long, got, x)
		}
	}
	if octet.Of(nil) != 0 || octet.Of([]byte{}) != 0 {
		t.Error("Of no bytes is not 0")
	}
}

// P1.1: Of looks at no byte of the spare room.
func TestOfSpareRoom(t *testing.T) {
	room := []byte{2, 1, 7, 7, 7, 7, 7, 7, 7, 7}
	if got := octet.Of(room[:2]); got != 258 {
		t.Errorf("Of with spare room: got %d", got)
	}
	if got := octet.Of(room[:0]); got != 0 {
		t.Errorf("Of nothing with spare room: got %d", got)
	}
}

// P1.1: Signed is 0 of n below 1, takes n above 8 as 8, and looks at the n low bytes alone.
func TestSigned(t *testing.T) {
	for _, n := range sizes {
		for _, x := range numbers() {
			want := int64(0)
			if n >= 1 {
				want = signedOf(x, clamped(n))
			}
			if got := octet.Signed(x, n); got != want {
				t.Errorf("Signed(%d, %d): got %d, want %d", x, n, got, want)
			}
		}
	}
}

// P1.1: a signed number is from -2^(8n-1) to 2^(8n-1) - 1, both of them reached.
func TestSignedUtmost(t *testing.T) {
	for n := 1; n <= 8; n++ {
		top := uint64(1) << (8*n - 1)
		if got, want := octet.Signed(top-1, n), int64(top-1); got != want {
			t.Errorf("the greatest of %d bytes: got %d, want %d", n, got, want)
		}
		least := int64(math.MinInt64) >> (64 - 8*n)
		if got := octet.Signed(top, n); got != least {
			t.Errorf("the least of %d bytes: got %d, want %d", n, got, least)
		}
		if got := octet.Signed(math.MaxUint64, n); got != -1 {
			t.Errorf("all ones of %d bytes: got %d", n, got)
		}
	}
}

// P1.2: what is next is answered, and the reader is behind it.
func TestReaderGoesOn(t *testing.T) {
	r := octet.New([]byte{1, 2, 1, 255, 254, 255, 7, 8, 9})
	if got := r.Number(1); got != 1 || r.Left() != 8 {
		t.Errorf("Number(1): got %d, left %d", got, r.Left())
	}
	if got := r.Number(2); got != 258 || r.Left() != 6 {
		t.Errorf("Number(2): got %d, left %d", got, r.Left())
	}
	if got := r.Signed(1); got != -1 || r.Left() != 5 {
		t.Errorf("Signed(1): got %d, left %d", got, r.Left())
	}
	if got := r.Signed(2); got != -2 || r.Left() != 3 {
		t.Errorf("Signed(2): got %d, left %d", got, r.Left())
	}
	wantErr(t, "End ahead of the end", r.End(), api.ErrBad)
	wantErr(t, "Err behind an End that found bytes", r.Err(), api.OK)
	wantBytes(t, "Bytes(3)", r.Bytes(3), []byte{7, 8, 9})
	wantErr(t, "Err", r.Err(), api.OK)
	wantErr(t, "End", r.End(), api.OK)
	if r.Left() != 0 {
		t.Errorf("left at the end: %d", r.Left())
	}
}

// P1.2: of 0 bytes there is 0, no error and no way made, also at the end.
func TestReaderOfNothing(t *testing.T) {
	for _, b := range [][]byte{nil, {}, {5}} {
		r := octet.New(b)
		if r.Number(0) != 0 || r.Signed(0) != 0 || len(r.Bytes(0)) != 0 {
			t.Errorf("of %v: 0 bytes are something", b)
		}
		if r.Left() != len(b) {
			t.Errorf("of %v: left %d", b, r.Left())
		}
		wantErr(t, fmt.Sprintf("Err of %v", b), r.Err(), api.OK)
	}
	wantErr(t, "End of nil", octet.New(nil).End(), api.OK)
	wantErr(t, "End of an empty list", octet.New([]byte{}).End(), api.OK)
}

// P1.2: numbers may be of 8 bytes, and bytes of more.
func TestReaderOfEight(t *testing.T) {
	b := []byte{1, 2, 3, 4, 5, 6, 7, 0x88, 9}
	if r := octet.New(b); r.Number(8) != 0x8807060504030201 || r.Left() != 1 || r.Err() != api.OK {
		t.Error("Number(8)")
	}
	if r := octet.New(b); r.Signed(8) != 0x0807060504030201+math.MinInt64 || r.Left() != 1 || r.Err() != api.OK {
		t.Error("Signed(8)")
	}
	r := octet.New(b)
	wantBytes(t, "Bytes(9)", r.Bytes(9), b)
	wantErr(t, "End behind Bytes(9)", r.End(), api.OK)
}

// ask makes one of the three calls, and tells whether its answer is nothing.
func ask(r *octet.Reader, call string, n int) bool {
	switch call {
	case "Number":
		return r.Number(n) == 0
	case "Signed":
		return r.Signed(n) == 0
	}
	return len(r.Bytes(n)) == 0
}

// P1.2 and rule 1: which error a size has, that the reader stays, and that ErrArg goes ahead of ErrMore.
func TestReaderErrors(t *testing.T) {
	tests := []struct {
		call string
		has  int
		n    int
		want api.Errno
	}{
		{"Number", 3, -1, api.ErrArg},
		{"Number", 3, math.MinInt, api.ErrArg},
		{"Number", 3, 9, api.ErrArg},
		{"Number", 20, 9, api.ErrArg},
		{"Number", 0, 9, api.ErrArg},
		{"Number", 3, math.MaxInt, api.ErrArg},
		{"Number", 3, 4, api.ErrMore},
		{"Number", 7, 8, api.ErrMore},
		{"Number", 0, 1, api.ErrMore},
		{"Signed", 3, -1, api.ErrArg},
		{"Signed", 3, math.MinInt, api.ErrArg},
		{"Signed", 3, 9, api.ErrArg},
		{"Signed", 20, 9, api.ErrArg},
		{"Signed", 0, math.MaxInt, api.ErrArg},
		{"Signed", 3, 4, api.ErrMore},
		{"Signed", 0, 1, api.ErrMore},
		{"Bytes", 3, -1, api.ErrArg},
		{"Bytes", 0, math.MinInt, api.ErrArg},
		{"Bytes", 3, 4, api.ErrMore},
		{"Bytes", 3, 9, api.ErrMore},
		{"Bytes", 0, 1, api.ErrMore},
		{"Bytes", 20, math.MaxInt, api.ErrMore},
	}
	for _, test := range tests {
		what := fmt.Sprintf("%s(%d) of %d bytes", test.call, test.n, test.has)
		r := octet.New(bytes.Repeat([]byte{0xff}, test.has))
		if !ask(r, test.call, test.n) {
			t.Errorf("%s: something", what)
		}
		if r.Left() != test.has {
			t.Errorf("%s: left %d", what, r.Left())
		}
		wantErr(t, what+": Err", r.Err(), test.want)
		wantErr(t, what+": End", r.End(), test.want)
	}
}

// P1.2: behind its first error a reader answers nothing, stays, and keeps that error.
func TestReaderBehindAnError(t *testing.T) {
	first := map[api.Errno]int{api.ErrArg: -1, api.ErrMore: 9}
	for want, n := range first {
		r := octet.New([]byte{1, 2, 3, 4, 5, 6, 7, 8})
		r.Number(1)
		r.Bytes(n)
		for _, call := range []string{"Number", "Signed", "Bytes"} {
			for _, size := range sizes {
				if !ask(r, call, size) {
					t.Errorf("%s(%d) behind error %d: something", call, size, want)
				}
				wantErr(t, call+" behind an error", r.Err(), want)
			}
		}
		if r.Left() != 7 {
			t.Errorf("left behind error %d: %d", want, r.Left())
		}
		wantErr(t, "End behind an error", r.End(), want)
	}
}

// P1.2: an error at the end is told ahead of OK, and End itself is none that is remembered.
func TestEnd(t *testing.T) {
	r := octet.New([]byte{1})
	wantErr(t, "End with a byte left", r.End(), api.ErrBad)
	wantErr(t, "End again", r.End(), api.ErrBad)
	if got := r.Number(1); got != 1 {
		t.Errorf("Number behind End: got %d", got)
	}
	wantErr(t, "End at the end", r.End(), api.OK)
	r.Number(1)
	wantErr(t, "End behind ErrMore at the end", r.End(), api.ErrMore)
}

// P1.3: what is put is read again, and a number of n bytes is below 2^(8n).
func TestPutIsRead(t *testing.T) {
	for n := range 9 {
		var b []byte
		for _, x := range numbers() {
			b = octet.Put(b, x, n)
		}
		plain, signed := octet.New(b), octet.New(b)
		for _, x := range numbers() {
			got := plain.Number(n)
			if want := valueOf(lowBytes(x, n)); got != want {
				t.Errorf("%d in %d bytes: got %d, want %d", x, n, got, want)
			}
			if n < 8 && got >= 1<<(8*n) {
				t.Errorf("a number of %d bytes: %d", n, got)
			}
			if got := signed.Signed(n); got != octet.Signed(x, n) {
				t.Errorf("%d, signed, in %d bytes: got %d", x, n, got)
			}
		}
		wantErr(t, "End", plain.End(), api.OK)
		wantErr(t, "End of the signed ones", signed.End(), api.OK)
	}
}

// P1.3: numbers that n bytes can hold are read as themselves.
func TestFittingIsItself(t *testing.T) {
	for _, x := range numbers() {
		for n := 1; n <= 8; n++ {
			b := octet.Put(nil, x, n)
			if fits := n == 8 || x < 1<<(8*n); fits && (octet.Of(b) != x || octet.New(b).Number(n) != x) {
				t.Errorf("%d in %d bytes is another one", x, n)
			}
			s := int64(x)
			low := int64(math.MinInt64) >> (64 - 8*n)
			if fits := s >= low && s <= -(low+1); fits && octet.New(b).Signed(n) != s {
				t.Errorf("%d in %d bytes is another one", s, n)
			}
		}
	}
}

// Rule 3: Put leaves b and its spare room as they are, and hands out none of them.
func TestPutIsNewMemory(t *testing.T) {
	for _, n := range sizes {
		room := bytes.Repeat([]byte{7}, 32)
		first := octet.Put(room[:4], math.MaxUint64, n)
		second := octet.Put(room[:4], 0, n)
		wantBytes(t, "what was handed in", room, bytes.Repeat([]byte{7}, 32))
		fill(first, 1)
		wantBytes(t, "what was handed in, behind a change of the answer", room, bytes.Repeat([]byte{7}, 32))
		want := append([]byte{7, 7, 7, 7}, make([]byte, clamped(n))...)
		wantBytes(t, "the second answer, behind a change of the first", second, want)
		fill(room, 9)
		wantBytes(t, "an answer, behind a change of what was handed in", second, want)
	}
}

// Rule 3: Put of no bytes to a list with spare room hands out none of it.
func TestPutOfNothingIsNewMemory(t *testing.T) {
	room := []byte{1, 2, 3}
	fill(octet.Put(room[:0], 5, 0), 9)
	fill(octet.Put(room[:2], 5, -1), 9)
	fill(octet.Put(room, 5, 0), 9)
	wantBytes(t, "what was handed in", room, []byte{1, 2, 3})
}

// Rule 3: a reader has its own bytes, and reads none of the spare room.
func TestReaderKeepsNothing(t *testing.T) {
	room := []byte{1, 2, 3, 4, 5, 6}
	r := octet.New(room[:3])
	if r.Left() != 3 {
		t.Errorf("left with spare room: %d", r.Left())
	}
	fill(room, 9)
	if got := r.Number(1); got != 1 {
		t.Errorf("Number behind a change: got %d", got)
	}
	got := r.Bytes(2)
	wantBytes(t, "Bytes behind a change", got, []byte{2, 3})
	fill(got, 8)
	wantBytes(t, "what was handed in", room, bytes.Repeat([]byte{9}, 6))
	if len(r.Bytes(1)) != 0 || r.Err() != api.ErrMore {
		t.Error("the spare room was read")
	}
}

// Rule 3: what Bytes answers shares nothing with what is left, with other answers, or with other readers.
func TestBytesAreNewMemory(t *testing.T) {
	b := []byte{1, 2, 3, 4, 5, 6}
	r, other := octet.New(b), octet.New(b)
	none := r.Bytes(0)
	first := r.Bytes(2)
	second := r.Bytes(2)
	fill(none, 9)
	fill(first, 9)
	wantBytes(t, "the second answer", second, []byte{3, 4})
	fill(second, 8)
	wantBytes(t, "the first answer", first, []byte{9, 9})
	wantBytes(t, "what is left", r.Bytes(2), []byte{5, 6})
	wantBytes(t, "another reader", other.Bytes(6), []byte{1, 2, 3, 4, 5, 6})
	wantBytes(t, "what was handed in", b, []byte{1, 2, 3, 4, 5, 6})
}

// Rule 4: a nil list and an empty one are the same.
func TestNilAndEmpty(t *testing.T) {
	for _, n := range sizes {
		wantBytes(t, "Put", octet.Put([]byte{}, 258, n), octet.Put(nil, 258, n))
		one, two := octet.New(nil), octet.New([]byte{})
		if one.Number(n) != two.Number(n) || one.Err() != two.Err() || one.End() != two.End() || one.Left() != two.Left() {
			t.Errorf("readers of nil and of an empty list differ at %d", n)
		}
	}
}

// Rule 7: a nil reader, and one that New did not make, answer ErrNil or nothing, whatever was asked ahead.
func TestReaderThatNobodyMade(t *testing.T) {
	readers := map[string]*octet.Reader{"nil": nil, "new": new(octet.Reader), "literal": {}}
	for name, r := range readers {
		for _, n := range sizes {
			for _, call := range []string{"Number", "Signed", "Bytes"} {
				if !ask(r, call, n) {
					t.Errorf("%s: %s(%d): something", name, call, n)
				}
				wantErr(t, name+": Err", r.Err(), api.ErrNil)
				wantErr(t, name+": End", r.End(), api.ErrNil)
			}
			if r.Left() != 0 {
				t.Errorf("%s: left %d", name, r.Left())
			}
		}
	}
}

// T6: no call has a say in what another object answers, and asking changes nothing.
func TestAskingChangesNothing(t *testing.T) {
	r, other := octet.New([]byte{1, 2}), octet.New([]byte{1, 2})
	other.Bytes(-1)
	for range 3 {
		if r.Left() != 2 || r.Err() != api.OK || r.End() != api.ErrBad {
			t.Error("asked again, another answer")
		}
	}
	if r.Number(2) != 513 {
		t.Error("Number behind asking")
	}
}

// naive is a reader as the document's words have it, by a place in all bytes.
type naive struct {
	all   []byte
	place int
	err   api.Errno
}

func (m *naive) next(n int, number bool) []byte {
	switch {
	case m.err != api.OK:
	case n < 0 || number && n > 8:
		m.err = api.ErrArg
	case n > len(m.all)-m.place:
		m.err = api.ErrMore
	default:
		m.place += n
		return m.all[m.place-n : m.place]
	}
	return nil
}

func (m *naive) end() api.Errno {
	if m.err == api.OK && m.place < len(m.all) {
		return api.ErrBad
	}
	return m.err
}

// step does one call of both readers, and tells whether they answer the same.
func step(r *octet.Reader, m *naive, call byte, n int) bool {
	same := false
	switch call % 3 {
	case 0:
		same = r.Number(n) == valueOf(m.next(n, true))
	case 1:
		want := m.next(n, true)
		same = r.Signed(n) == signedOf(valueOf(want), len(want))
	case 2:
		same = bytes.Equal(r.Bytes(n), m.next(n, false))
	}
	return same && r.Left() == len(m.all)-m.place && r.Err() == m.err && r.End() == m.end()
}

// P1.2 and T6: a reader is as the naive one, whatever is asked of it.
func FuzzReader(f *testing.F) {
	f.Add([]byte{}, []byte{})
	f.Add([]byte{1, 2, 3}, []byte{0, 1, 1, 3, 2, 1})
	f.Add(bytes.Repeat([]byte{0x80, 0x7f}, 40), []byte{1, 1, 1, 2, 1, 3, 1, 4, 1, 8, 2, 20, 0, 8, 2, 0, 0, 9, 0, 1})
	f.Add([]byte{5}, []byte{2, 1, 0, 1, 2, 0})
	f.Add([]byte{5, 255}, []byte{1, 255, 0, 1})
	f.Fuzz(func(t *testing.T, b, calls []byte) {
		r, m := octet.New(b), &naive{all: bytes.Clone(b)}
		for ; len(calls) >= 2; calls = calls[2:] {
			n := int(int8(calls[1]))
			if !step(r, m, calls[0], n) {
				t.Fatalf("of %v: call %d of %d bytes is another one", b, calls[0]%3, n)
			}
		}
	})
}

// FuzzPut holds P1.1 and P1.3 against the naive numbers.
func FuzzPut(f *testing.F) {
	f.Add([]byte{}, uint64(258), 2)
	f.Add([]byte{9}, uint64(math.MaxUint64), 9)
	f.Add([]byte{9, 8}, uint64(1)<<63, -1)
	f.Fuzz(func(t *testing.T, b []byte, x uint64, n int) {
		low := lowBytes(x, clamped(n))
		wantBytes(t, "Put", octet.Put(b, x, n), append(bytes.Clone(b), low...))
		if got := octet.Of(low); got != valueOf(low) {
			t.Errorf("Of(%v): got %d", low, got)
		}
		if got := octet.Signed(x, n); got != signedOf(x, clamped(n)) {
			t.Errorf("Signed(%d, %d): got %d", x, n, got)
		}
	})
}
