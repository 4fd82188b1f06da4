package encode

import (
	"hayloft/api"
	"hayloft/value"
)

// wordSize is how many bytes an int has.
const wordSize = 8

// mostGroups is how many groups of seven bits a number of 64 bits has at most.
const mostGroups = 10

// putDelta writes the first int whole, of each other one its difference to the one ahead of it.
func putDelta(l []api.Value) []byte {
	pieces := [][]byte{wordBytes(l[0].Int)}
	for i, v := range l[1:] {
		pieces = append(pieces, groups(fold(v.Int-l[i].Int)))
	}
	return join(pieces...)
}

// takeDelta reads so many ints.
func takeDelta(b []byte, many int) ([]api.Value, bool) {
	if len(b) < wordSize {
		return nil, false
	}
	n := word(b)
	l := []api.Value{value.Int(n)}
	b = b[wordSize:]
	for range many - 1 {
		z, size := takeGroups(b)
		if size == 0 {
			return nil, false
		}
		n += unfold(z)
		l = append(l, value.Int(n))
		b = b[size:]
	}
	return l, true
}

// fold makes a number near 0, above or below, a small one: 0, -1, 1, -2 become 0, 1, 2, 3.
func fold(d int64) uint64 {
	z := 2 * uint64(d)
	if d < 0 {
		return ^z
	}
	return z
}

func unfold(z uint64) int64 {
	d := int64(z / 2)
	if z%2 == 1 {
		return ^d
	}
	return d
}

// groups are a number's bits, seven a byte, the lowest first; each byte but the last has 128 added.
func groups(z uint64) []byte {
	var b []byte
	for z >= 128 {
		b = append(b, byte(z)|128)
		z >>= 7
	}
	return append(b, byte(z))
}

// takeGroups answers the number whose groups b begins with, and how many these are (0: they are none's).
func takeGroups(b []byte) (uint64, int) {
	var z uint64
	for i := range min(len(b), mostGroups) {
		z |= uint64(b[i]%128) << (7 * i)
		if b[i] < 128 {
			return z, i + 1
		}
	}
	return 0, 0
}

// wordBytes are an int's bytes, the highest first.
func wordBytes(n int64) []byte {
	b := make([]byte, wordSize)
	for i := range wordSize {
		b[wordSize-1-i] = byte(n >> (8 * i))
	}
	return b
}

// word is the int with whose bytes b begins.
func word(b []byte) int64 {
	var n int64
	for i := range wordSize {
		n = n<<8 | int64(b[i])
	}
	return n
}
