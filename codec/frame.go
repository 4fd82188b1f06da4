package codec

import (
	"bytes"

	"hayloft/api"
)

const (
	headSize = 8 // a frame's first bytes: how many the body has, and the sum of that
	tailSize = 4 // its last ones: the sum of the body
)

// nibbleSums has what the register's four lowest bits do to it when they are shifted out: four of the checksum's steps at once.
var nibbleSums = [16]uint32{
	0x00000000, 0x1db71064, 0x3b6e20c8, 0x26d930ac,
	0x76dc4190, 0x6b6b51f4, 0x4db26158, 0x5005713c,
	0xedb88320, 0xf00f9344, 0xd6d6a3e8, 0xcb61b38c,
	0x9b64c2b0, 0x86d3d2d4, 0xa00ae278, 0xbdbdf21c,
}

// Sum is the checksum CRC-32.
func Sum(b []byte) uint32 {
	register := ^uint32(0)
	for _, x := range b {
		register ^= uint32(x)
		register = register>>4 ^ nibbleSums[register&15]
		register = register>>4 ^ nibbleSums[register&15]
	}
	return ^register
}

// Frame answers b with checksums around it.
func Frame(b []byte) ([]byte, api.Errno) {
	if len(b) > api.MaxFrame {
		return nil, api.ErrCodecLong
	}
	w := Writer{all: make([]byte, 0, headSize+len(b)+tailSize)}
	w.Word(uint32(len(b)))
	w.Word(Sum(w.all))
	w.Raw(b)
	w.Word(Sum(b))
	return w.all, api.OK
}

// Unframe answers what the frame that b begins with has, and how many bytes the frame is.
func Unframe(b []byte) ([]byte, int, api.Errno) {
	if len(b) < headSize {
		return nil, 0, api.ErrCodecShort
	}
	if word(b[4:]) != Sum(b[:4]) {
		return nil, 0, api.ErrCodecSum
	}
	if word(b) > api.MaxFrame {
		return nil, 0, api.ErrCodecLong
	}
	end := headSize + int(word(b))
	size := end + tailSize
	if len(b) < size {
		return nil, 0, api.ErrCodecShort
	}
	body := b[headSize:end]
	if word(b[end:]) != Sum(body) {
		return nil, 0, api.ErrCodecSum
	}
	return bytes.Clone(body), size, api.OK
}

// word tells what b's first 4 bytes say.
func word(b []byte) uint32 { return uint32(number(b[:4])) }
