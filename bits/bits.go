// Package bits is layer 1: a writer and a reader of single bits. See
// shared/doc/01-bits.md.
package bits

import (
	"gypsum/api"
)

// maxWidth is the number of bits of the widest value that is written or read
// at once.
const maxWidth = 64

// Writer holds a sequence of bits; its zero value holds none.
type Writer struct {
	packed []byte // the byte form at all times, so that Bytes is a mere copy
	size   int    // the number of bits
}

// Put appends the n lowest-order bits of v, the most significant one first.
func (w *Writer) Put(v uint64, n int) api.Errno {
	if w == nil {
		return api.ErrArg
	}
	if n < 0 || n > maxWidth || v>>uint(n) != 0 {
		return api.ErrRange
	}
	if n > api.MaxBits-w.size {
		return api.ErrFull
	}
	for i := range n {
		w.push(byte(v >> uint(n-1-i) & 1))
	}
	return api.OK
}

// push appends a bit that is 0 or 1.
func (w *Writer) push(bit byte) {
	used := w.size % 8
	if used == 0 {
		w.packed = append(w.packed, 0)
	}
	w.packed[len(w.packed)-1] |= bit << uint(7-used)
	w.size++
}

// Bit appends a single bit, which is 1 for true.
func (w *Writer) Bit(b bool) api.Errno {
	if b {
		return w.Put(1, 1)
	}
	return w.Put(0, 1)
}

// Len returns the number of bits written.
func (w *Writer) Len() int {
	if w == nil {
		return 0
	}
	return w.size
}

// Bytes returns the byte form of the bits written, in new memory.
func (w *Writer) Bytes() []byte {
	if w == nil {
		return nil
	}
	return copyOf(w.packed)
}

// Reader holds a sequence of bits, and the position up to which they have been
// read.
type Reader struct {
	packed []byte
	size   int
	at     int
}

// NewReader returns a reader of the first bits bits of b, which is accepted
// only if it is the byte form of just these bits.
func NewReader(b []byte, bits int) (*Reader, api.Errno) {
	if bits < 0 || bits > api.MaxBits {
		return nil, api.ErrRange
	}
	need := (bits + 7) / 8
	if len(b) < need {
		return nil, api.ErrEnd
	}
	if len(b) > need {
		return nil, api.ErrMore
	}
	if used := bits % 8; used != 0 && b[need-1]<<uint(used) != 0 {
		return nil, api.ErrForm
	}
	return &Reader{packed: copyOf(b), size: bits}, api.OK
}

// Get returns the value of the next n bits and moves behind them.
func (r *Reader) Get(n int) (uint64, api.Errno) {
	if r == nil {
		return 0, api.ErrArg
	}
	if n < 0 || n > maxWidth {
		return 0, api.ErrRange
	}
	if n > r.size-r.at {
		return 0, api.ErrEnd
	}
	var v uint64
	for i := range n {
		v = v<<1 | uint64(bitAt(r.packed, r.at+i))
	}
	r.at += n
	return v, api.OK
}

// bitAt returns the bit of a byte form that has i bits before it.
func bitAt(packed []byte, i int) byte {
	return packed[i/8] >> uint(7-i%8) & 1
}

// Bit reports whether the next bit is 1, and moves behind it.
func (r *Reader) Bit() (bool, api.Errno) {
	v, e := r.Get(1)
	return v == 1, e
}

// Left returns the number of bits that have not been read.
func (r *Reader) Left() int {
	if r == nil {
		return 0
	}
	return r.size - r.at
}

// At returns the number of bits that have been read.
func (r *Reader) At() int {
	if r == nil {
		return 0
	}
	return r.at
}

func copyOf(b []byte) []byte {
	c := make([]byte, len(b))
	copy(c, b)
	return c
}
