// Package octet is layer 1: numbers as bytes, low byte first, and a reader that
// remembers its first error.
package octet

import (
	"bytes"
	"math"

	"wayfinder/api"
)

// widest is how many bytes a number has at most.
const widest = 8

// Reader goes through bytes from their beginning on. Behind its first error it
// answers nothing more, so a caller may ask for all it wants and look once.
type Reader struct {
	// made tells a reader of no bytes from one that New did not make.
	made bool
	rest []byte
	err  api.Errno
}

// Put answers b with x's n low bytes behind.
func Put(b []byte, x uint64, n int) []byte {
	n = min(max(n, 0), widest)
	// b's own spare room may be somebody else's, so b is copied, not appended to.
	put := append(make([]byte, 0, len(b)+n), b...)
	for i := range n {
		put = append(put, byte(x>>(8*i)))
	}
	return put
}

// Of answers the number of b's first 8 bytes, or of fewer if there are no more.
func Of(b []byte) uint64 {
	var x uint64
	for i := range min(len(b), widest) {
		x |= uint64(b[i]) << (8 * i)
	}
	return x
}

// Signed answers the signed number of x's n low bytes.
func Signed(x uint64, n int) int64 {
	if n < 1 {
		return 0
	}
	// Shifted to the top and back, the number's own top bit fills all above it.
	above := 8 * (widest - min(n, widest))
	return int64(x<<above) >> above
}

// New answers a reader ahead of b.
func New(b []byte) *Reader {
	// The caller may change b later: the reader has its own copy.
	return &Reader{made: true, rest: bytes.Clone(b)}
}

// Number answers the number of the next n bytes.
func (r *Reader) Number(n int) uint64 {
	return Of(r.take(n, widest))
}

// Signed answers the signed number of the next n bytes.
func (r *Reader) Signed(n int) int64 {
	// Where there is an error the number is 0, and so is the signed one, at any n.
	return Signed(r.Number(n), n)
}

// Bytes answers the next n bytes.
func (r *Reader) Bytes(n int) []byte {
	// Cloned, because what is taken has all that comes behind it as spare room.
	return bytes.Clone(r.take(n, math.MaxInt))
}

// Left answers how many bytes are left.
func (r *Reader) Left() int {
	if r.unmade() {
		return 0
	}
	return len(r.rest)
}

// Err answers the reader's first error.
func (r *Reader) Err() api.Errno {
	if r.unmade() {
		return api.ErrNil
	}
	return r.err
}

// End answers whether all was read without an error. It asks only: bytes that
// are left may still be read behind it.
func (r *Reader) End() api.Errno {
	if err := r.Err(); err != api.OK {
		return err
	}
	if len(r.rest) > 0 {
		return api.ErrBad
	}
	return api.OK
}

// take answers the next n bytes, of which there may be asked for most, and goes
// behind them; with an error it answers none and stays.
func (r *Reader) take(n, most int) []byte {
	if r.Err() != api.OK {
		return nil
	}
	if r.err = r.refusal(n, most); r.err != api.OK {
		return nil
	}
	taken := r.rest[:n]
	r.rest = r.rest[n:]
	return taken
}

// refusal answers why n bytes can not be taken.
func (r *Reader) refusal(n, most int) api.Errno {
	if n < 0 || n > most {
		return api.ErrArg
	}
	if n > len(r.rest) {
		return api.ErrMore
	}
	return api.OK
}

// unmade tells whether New did not make the reader.
func (r *Reader) unmade() bool {
	return r == nil || !r.made
}
