// Package octet is layer 1: see shared/doc/01-octet.md.
package octet

import "slices"

// maxWidth is how many bytes the widest number has.
const maxWidth = 8

// Writer puts bytes down.
type Writer struct {
	bytes []byte
}

// Write is a writer without bytes.
func Write() *Writer { return &Writer{} }

// Num puts a number of n bytes.
func (w *Writer) Num(n int, v uint64) bool {
	if w == nil || !fits(n, v) {
		return false
	}
	place := w.extend(n)
	for i := n - 1; i >= 0; i-- {
		place[i] = byte(v)
		v >>= 8
	}
	return true
}

// Raw puts bytes as they are.
func (w *Writer) Raw(parts ...[]byte) {
	if w == nil {
		return
	}
	for _, part := range parts {
		copy(w.extend(len(part)), part)
	}
}

// Bytes are all bytes.
func (w *Writer) Bytes() []byte {
	if w == nil {
		return nil
	}
	return clone(w.bytes)
}

// Len is how many bytes there are.
func (w *Writer) Len() int {
	if w == nil {
		return 0
	}
	return len(w.bytes)
}

// extend makes room for n more bytes and returns that room for the caller to fill.
func (w *Writer) extend(n int) []byte {
	old := len(w.bytes)
	w.bytes = slices.Grow(w.bytes, n)[:old+n]
	return w.bytes[old:]
}

// Reader takes bytes up.
type Reader struct {
	rest  []byte
	spent bool
}

// Read is a reader at the first byte.
func Read(b []byte) *Reader {
	// The caller may change b later on, and the reader must not see that.
	return &Reader{rest: clone(b)}
}

// Spent tells whether too much was asked.
func (r *Reader) Spent() bool { return r == nil || r.spent }

// Left is how many bytes are left.
func (r *Reader) Left() int {
	if r.Spent() {
		return 0
	}
	return len(r.rest)
}

// All tells whether all was taken, and no more was asked.
func (r *Reader) All() bool { return !r.Spent() && r.Left() == 0 }

// Take takes the next n bytes.
func (r *Reader) Take(n int) []byte { return clone(r.next(n)) }

// Num takes the number of the next n bytes.
func (r *Reader) Num(n int) uint64 {
	if !isWidth(n) {
		r.spend()
		return 0
	}
	var v uint64
	for _, b := range r.next(n) {
		v = v<<8 | uint64(b)
	}
	return v
}

// next moves the reader behind the next n bytes and returns them, without a copy. A reader that does not have them has nothing from then on.
func (r *Reader) next(n int) []byte {
	if n < 0 || n > r.Left() {
		r.spend()
	}
	if r.Spent() {
		return nil
	}
	part := r.rest[:n]
	r.rest = r.rest[n:]
	return part
}

// spend drops what remains, since nobody can take it any more.
func (r *Reader) spend() {
	if r != nil {
		*r = Reader{spent: true}
	}
}

func isWidth(n int) bool { return n >= 1 && n <= maxWidth }

// fits tells whether v has an n-byte encoding. A shift by all 64 bits leaves 0, so every number fits into the greatest width.
func fits(n int, v uint64) bool { return isWidth(n) && v>>(8*n) == 0 }

// clone keeps what goes in and out apart from what is kept.
func clone(b []byte) []byte {
	if len(b) == 0 {
		return nil
	}
	c := make([]byte, len(b))
	copy(c, b)
	return c
}
