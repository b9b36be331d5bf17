// Package word: eight bytes, and bits in them: see DOC.md, chapter 1.
package word

import (
	"bytes"
	"math/bits"
)

const (
	size  = 8  // bytes of a word
	width = 64 // bits of a word
)

// has tells whether bytes have all of a word. Dividing, so that no at runs over.
func has(b []byte, at int) bool { return at >= 0 && at < len(b)/size }

// Get tells a word of bytes.
func Get(b []byte, at int) uint64 {
	if !has(b, at) {
		return 0
	}
	var v uint64
	for i, x := range b[size*at : size*at+size] {
		v |= uint64(x) << (8 * i)
	}
	return v
}

// Put sets one.
func Put(b []byte, at int, v uint64) ([]byte, bool) {
	out := bytes.Clone(b)
	if !has(b, at) {
		return out, false
	}
	copy(out[size*at:], Bytes(v))
	return out, true
}

// Bytes tells words' bytes.
func Bytes(l ...uint64) []byte {
	out := make([]byte, 0, size*len(l))
	for _, v := range l {
		for i := range size {
			out = append(out, byte(v>>(8*i)))
		}
	}
	return out
}

// Words tells bytes' words.
func Words(b []byte) []uint64 {
	out := make([]uint64, len(b)/size)
	for at := range out {
		out[at] = Get(b, at)
	}
	return out
}

// fits tells whether a word has n bits from bit from on.
func fits(from, n int) bool {
	return from >= 0 && from < width && n >= 1 && n <= width-from
}

// mask tells n ones in the lowest bits.
func mask(n int) uint64 { return ^uint64(0) >> (width - n) }

// Field tells bits of a word.
func Field(v uint64, from, n int) uint64 {
	if !fits(from, n) {
		return 0
	}
	return v >> from & mask(n)
}

// With sets some.
func With(v uint64, from, n int, x uint64) uint64 {
	if !fits(from, n) {
		return v
	}
	return v&^(mask(n)<<from) | x&mask(n)<<from
}

// Turn turns a word.
func Turn(v uint64, n int) uint64 { return bits.RotateLeft64(v, n%width) }
