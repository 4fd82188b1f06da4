package rows

import (
	"hayloft/api"
	"hayloft/value"
)

// longSize is how many bytes an int has.
const longSize = 8

// long is an int's bytes, the highest first.
type long [longSize]byte

func longOf(n uint64) long {
	var l long
	for i := range longSize {
		l[longSize-1-i] = byte(n >> (8 * i))
	}
	return l
}

func (l long) number() uint64 {
	var n uint64
	for i := range longSize {
		n = n<<8 | uint64(l[i])
	}
	return n
}

// putFixed puts behind b the bytes of a null, a bool or an int: rows and keys write these alike, but that a key adds something to an int.
func putFixed(b []byte, v api.Value, add uint64) []byte {
	b = append(b, byte(v.Kind))
	switch v.Kind {
	case api.KindBool:
		return append(b, truth(v.Bool))
	case api.KindInt:
		l := longOf(uint64(v.Int) + add)
		return append(b, l[:]...)
	}
	return b
}

func truth(is bool) byte {
	if is {
		return 1
	}
	return 0
}

// takeFixed answers the null, bool or int that b begins with, and how many bytes it has (0: it is none of them). What was added to an int is taken off.
func takeFixed(b []byte, added uint64) (api.Value, int) {
	switch {
	case len(b) >= 1 && b[0] == api.KindNull:
		return value.Null(), 1
	case len(b) >= 2 && b[0] == api.KindBool && b[1] <= 1:
		return value.Bool(b[1] == 1), 2
	case len(b) >= 1+longSize && b[0] == api.KindInt:
		l := long(b[1 : 1+longSize])
		return value.Int(int64(l.number() - added)), 1 + longSize
	}
	return api.Value{}, 0
}
