package codec

import (
	"bytes"
	"math"

	"hayloft/api"
)

// Reader goes through bytes, and keeps what was amiss first.
type Reader struct {
	left []byte // in memory of the reader's own: never handed out, only copies of it
	err  api.Errno
}

// Read answers a reader at the front of b.
func Read(b []byte) *Reader { return &Reader{left: bytes.Clone(b)} }

// Byte reads one byte.
func (r *Reader) Byte() byte { return byte(number(r.take(1))) }

// Word reads 4 bytes.
func (r *Reader) Word() uint32 { return uint32(number(r.take(4))) }

// Long reads 8 bytes.
func (r *Reader) Long() uint64 { return number(r.take(8)) }

// Var reads a number that is at most so great.
func (r *Reader) Var(most uint64) uint64 {
	if r.err != api.OK {
		return 0
	}
	n, size, e := frontVar(r.left)
	if e == api.OK && n > most {
		e = api.ErrCodecLong
	}
	if e != api.OK {
		r.err = e
		return 0
	}
	r.left = r.left[size:]
	return n
}

// Raw reads n bytes.
func (r *Reader) Raw(n int) []byte {
	if n < 0 {
		r.Fail(api.ErrCodecLong)
		return nil
	}
	return bytes.Clone(r.take(n))
}

// Text reads bytes that have their count, at most so many, ahead of them.
func (r *Reader) Text(most int) []byte {
	start := r.left
	b := r.Raw(r.count(most))
	if r.err != api.OK {
		r.left = start // a text that is cut off leaves its count unread too
	}
	return b
}

// Fail says that something is amiss; only the first time counts.
func (r *Reader) Fail(e api.Errno) {
	if r.err == api.OK {
		r.err = e
	}
}

// Err tells what was amiss first.
func (r *Reader) Err() api.Errno { return r.err }

// Left tells how many bytes are not read yet.
func (r *Reader) Left() int { return len(r.left) }

// End tells whether all was read, and nothing was amiss.
func (r *Reader) End() api.Errno {
	if r.err == api.OK && len(r.left) > 0 {
		return api.ErrCodecMore
	}
	return r.err
}

// take reads n bytes; they are still the reader's memory.
func (r *Reader) take(n int) []byte {
	if r.err == api.OK && n > len(r.left) {
		r.err = api.ErrCodecShort
	}
	if r.err != api.OK {
		return nil
	}
	b := r.left[:n]
	r.left = r.left[n:]
	return b
}

// count reads how many things there are; a bound below 0 allows no count at all, not even 0.
func (r *Reader) count(most int) int {
	if most >= 0 {
		return int(r.Var(uint64(most)))
	}
	start := r.left
	r.Var(math.MaxUint64) // a fault of its own goes ahead of the bound's
	r.left = start
	r.Fail(api.ErrCodecLong)
	return 0
}

// frontVar tells the number that b begins with, and in how many bytes it stands there.
func frontVar(b []byte) (uint64, int, api.Errno) {
	if len(b) == 0 {
		return 0, 0, api.ErrCodecShort
	}
	first := b[0]
	size := 1 + behind(first)
	if size == 1 {
		return uint64(first), 1, api.OK
	}
	if len(b) < size {
		return 0, 0, api.ErrCodecShort
	}
	n := number(b[1:size])
	if lead(n) != first {
		return 0, 0, api.ErrCodecForm
	}
	return n, size, api.OK
}

// number tells what at most 8 bytes say, the highest first.
func number(b []byte) uint64 {
	var n uint64
	for _, x := range b {
		n = n<<8 | uint64(x)
	}
	return n
}
