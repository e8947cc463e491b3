// Package octet is layer 1: numbers as bytes in the order of a wire, and a reader that takes bytes off one. See shared/doc/01-octet.md.
package octet

import (
	"bytes"

	"junctionbox/api"
)

// wire is what is still to come, the next byte first.
type wire struct {
	rest []byte
}

// next takes one byte off; who calls it has seen to it that there is one.
func (w *wire) next() byte {
	b := w.rest[0]
	w.rest = w.rest[1:]
	return b
}

// Reader takes bytes off a wire of its own, until it is out of step: err is OK as long as it is not.
type Reader struct {
	wire
	err api.Errno
}

// Put16: P1.1.
func Put16(b []byte, x uint16) []byte {
	return put(b, uint64(x), 2)
}

// Put32: P1.1.
func Put32(b []byte, x uint32) []byte {
	return put(b, uint64(x), 4)
}

// Put64: P1.1.
func Put64(b []byte, x uint64) []byte {
	return put(b, x, 8)
}

// put makes a new list whatever room there is behind b's end: that room may be somebody else's.
func put(b []byte, x uint64, width int) []byte {
	out := make([]byte, len(b)+width)
	copy(out, b)
	for i := range width {
		out[len(out)-1-i] = byte(x >> (8 * i))
	}
	return out
}

// Equal: P1.2.
func Equal(a, b []byte) bool {
	return bytes.Equal(a, b)
}

// Bit: P1.2.
func Bit(b []byte, k int) bool {
	// The places are compared, not the bits: eight times a length might not fit an int.
	if k < 0 || k/8 >= len(b) {
		return false
	}
	return b[len(b)-1-k/8]>>(k%8)&1 == 1
}

// Read: P1.3.
func Read(b []byte) *Reader {
	own := make([]byte, len(b))
	copy(own, b) // what is handed in may be changed behind the reader's back
	return &Reader{wire: wire{own}}
}

// U8: P1.3.
func (r *Reader) U8() byte {
	return byte(r.number(1))
}

// U16: P1.3.
func (r *Reader) U16() uint16 {
	return uint16(r.number(2))
}

// U32: P1.3.
func (r *Reader) U32() uint32 {
	return uint32(r.number(4))
}

// U64: P1.3.
func (r *Reader) U64() uint64 {
	return r.number(8)
}

// Raw: P1.3.
func (r *Reader) Raw(n int) []byte {
	var out []byte // it has no room set aside ahead: n may be any number
	r.take(n, func(b byte) {
		out = append(out, b)
	})
	return out
}

// Left: P1.4.
func (r *Reader) Left() int {
	if r == nil {
		return 0
	}
	return len(r.rest)
}

// Err: P1.4.
func (r *Reader) Err() api.Errno {
	if r == nil {
		return api.ErrNil
	}
	return r.err
}

// number takes off so many bytes, the highest first; 0, if they don't come.
func (r *Reader) number(width int) uint64 {
	var x uint64
	r.take(width, func(b byte) {
		x = x<<8 | uint64(b)
	})
	return x
}

// take tells the next n bytes one by one, all of them or none. The first error stays: what is asked for out of step says nothing of the wire any more.
func (r *Reader) take(n int, tell func(b byte)) {
	if r.Err() != api.OK {
		return
	}
	switch {
	case n < 0:
		r.err = api.ErrArg
	case n > r.Left():
		r.err = api.ErrShort
	default:
		for range n {
			tell(r.next())
		}
	}
}
