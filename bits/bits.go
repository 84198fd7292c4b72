// Package bits: bits as bytes: see doc/01-bits.md.
package bits

import "bytes"

// mostBits is the width of the numbers that Put takes and Get gives.
const mostBits = 64

// chunkSize is how many bytes a Writer fills before it links them.
const chunkSize = 256

type chunk [chunkSize]byte

// link is a full chunk and the ones ahead of it. It is not changed once it is made: a Writer that was copied as a value shares it with the other, and neither sees what the other appends.
type link struct {
	before *link
	bytes  chunk
}

// Writer is the chapter's.
type Writer struct {
	full *link
	last chunk // its bits behind the last appended one are zero
	n    int   // bits in all
}

// Put: see the chapter.
func (w *Writer) Put(v uint64, n int) bool {
	if w == nil || n < 0 || n > mostBits {
		return false
	}
	for n > 0 {
		n -= w.fill(v, n)
	}
	return true
}

// fill appends the first of the lowest n bits of v, as many as the current byte has room for, and returns how many these are.
func (w *Writer) fill(v uint64, n int) int {
	room := 8 - w.n%8
	count := min(room, n)
	piece := v >> (n - count) & (1<<count - 1)
	w.last[w.n/8%chunkSize] |= byte(piece << (room - count))
	w.n += count
	if w.n%(8*chunkSize) == 0 {
		w.full = &link{w.full, w.last}
		w.last = chunk{}
	}
	return count
}

// Len: see the chapter.
func (w *Writer) Len() int {
	if w == nil {
		return 0
	}
	return w.n
}

// Bytes: see the chapter.
func (w *Writer) Bytes() []byte {
	if w == nil {
		return nil
	}
	out := make([]byte, (w.n+7)/8)
	at := w.n / (8 * chunkSize) * chunkSize
	copy(out[at:], w.last[:])
	for l := w.full; l != nil; l = l.before {
		at -= chunkSize
		copy(out[at:], l.bytes[:])
	}
	return out
}

// Reader is the chapter's.
type Reader struct {
	bytes []byte
	at    int // bits that were read
}

// Read: see the chapter.
func Read(b []byte) *Reader {
	return &Reader{bytes: bytes.Clone(b)}
}

// Get: see the chapter.
func (r *Reader) Get(n int) (uint64, bool) {
	if r == nil || n < 0 || n > mostBits || n > r.Left() {
		return 0, false
	}
	v := uint64(0)
	for n > 0 {
		rest := 8 - r.at%8
		count := min(rest, n)
		piece := uint64(r.bytes[r.at/8]) >> (rest - count) & (1<<count - 1)
		v = v<<count | piece
		r.at += count
		n -= count
	}
	return v, true
}

// Left: see the chapter.
func (r *Reader) Left() int {
	if r == nil {
		return 0
	}
	return 8*len(r.bytes) - r.at
}
