package encode

import (
	"math/bits"

	"hayloft/api"
	"hayloft/value"
)

// intBits is how many bits an int has.
const intBits = 64

// putBits writes the least int whole, and of each int how much it is above that.
func putBits(l []api.Value) []byte {
	least := l[0].Int
	for _, v := range l {
		least = min(least, v.Int)
	}
	above := make([]uint64, len(l))
	width := 0
	for i, v := range l {
		above[i] = uint64(v.Int) - uint64(least)
		width = max(width, bits.Len64(above[i]))
	}
	return join(wordBytes(least), []byte{byte(width)}, pack(above, width))
}

// takeBits reads so many ints.
func takeBits(b []byte, many int) ([]api.Value, bool) {
	if len(b) <= wordSize || b[wordSize] > intBits {
		return nil, false
	}
	above, ok := unpack(b[wordSize+1:], many, int(b[wordSize]))
	if !ok {
		return nil, false
	}
	least := word(b)
	l := make([]api.Value, many)
	for i, n := range above {
		l[i] = value.Int(least + int64(n))
	}
	return l, true
}

// pack writes numbers in so many bits each, their lowest bits first, from each byte's lowest bit on.
func pack(numbers []uint64, width int) []byte {
	b := make([]byte, packedSize(len(numbers), width))
	for i, n := range numbers {
		for k := range width {
			at := i*width + k
			b[at/8] |= byte(n>>k&1) << (at % 8)
		}
	}
	return b
}

// unpack reads so many numbers, if b has just the bytes for them.
func unpack(b []byte, many, width int) ([]uint64, bool) {
	if len(b) != packedSize(many, width) {
		return nil, false
	}
	numbers := make([]uint64, many)
	for i := range numbers {
		for k := range width {
			at := i*width + k
			numbers[i] |= uint64(b[at/8]>>(at%8)&1) << k
		}
	}
	return numbers, true
}

// packedSize is how many bytes so many numbers take.
func packedSize(many, width int) int { return (many*width + 7) / 8 }
