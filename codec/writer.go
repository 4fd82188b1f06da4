// Package codec is layer 1: bytes that are written, and read, in one way: see shared/doc/01-codec.md.
package codec

import "bytes"

// The first byte of a Var that does not fit into one byte says how many bytes are behind it.
const (
	leadTwo   = 253
	leadFour  = 254
	leadEight = 255
)

// Writer gathers bytes.
type Writer struct {
	all []byte
}

// New answers a writer that has no bytes yet.
func New() *Writer { return &Writer{} }

// Byte puts one byte.
func (w *Writer) Byte(b byte) { w.all = append(w.all, b) }

// Word puts 4 bytes.
func (w *Writer) Word(n uint32) { w.number(uint64(n), 4) }

// Long puts 8 bytes.
func (w *Writer) Long(n uint64) { w.number(n, 8) }

// Var puts a number in as few bytes as its form allows.
func (w *Writer) Var(n uint64) {
	first := lead(n)
	w.Byte(first)
	w.number(n, behind(first))
}

// Raw puts bytes as they are.
func (w *Writer) Raw(b []byte) { w.all = append(w.all, b...) }

// Text puts bytes, and ahead of them how many they are.
func (w *Writer) Text(b []byte) {
	w.Var(uint64(len(b)))
	w.Raw(b)
}

// Bytes tells all that was put.
func (w *Writer) Bytes() []byte { return bytes.Clone(w.all) }

// Len tells how many bytes were put.
func (w *Writer) Len() int { return len(w.all) }

// number puts the low bytes of n, so many of them, the highest first.
func (w *Writer) number(n uint64, size int) {
	for shift := 8 * (size - 1); shift >= 0; shift -= 8 {
		w.Byte(byte(n >> shift))
	}
}

// lead tells the first byte of n's Var.
func lead(n uint64) byte {
	switch {
	case n < leadTwo:
		return byte(n)
	case n < 1<<16:
		return leadTwo
	case n < 1<<32:
		return leadFour
	}
	return leadEight
}

// behind tells how many bytes a Var has behind its first one.
func behind(first byte) int {
	switch first {
	case leadTwo:
		return 2
	case leadFour:
		return 4
	case leadEight:
		return 8
	}
	return 0
}
