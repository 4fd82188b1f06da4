package rows

import (
	"hayloft/api"
	"hayloft/value"
)

// signShift brings the ints below 0 below the others, as unsigned numbers.
const signShift = 1 << 63

// A text of a key ends with a byte 0 and nulEnd; a byte 0 of its own is followed by nulMark. As nulMark is above nulEnd, a text is ahead of those that it begins.
const (
	nulMark = 255
	nulEnd  = 0
)

// Key writes a row so that the bytes' order is the rows'.
func Key(row []api.Value) ([]byte, api.Errno) {
	if !right(row) {
		return nil, api.ErrRowsForm
	}
	var b []byte
	for _, v := range row {
		b = putKey(b, v)
	}
	return b, api.OK
}

// Unkey reads the row that Key writes as b.
func Unkey(b []byte) ([]api.Value, api.Errno) {
	var row []api.Value
	for len(b) > 0 {
		v, size := takeKey(b)
		if size == 0 || len(row) == mostValues {
			return nil, api.ErrRowsForm
		}
		row = append(row, v)
		b = b[size:]
	}
	return row, api.OK
}

// putKey puts what a key has of v behind b.
func putKey(b []byte, v api.Value) []byte {
	if v.Kind != api.KindText {
		return putFixed(b, v, signShift)
	}
	b = append(b, api.KindText)
	for i := range len(v.Text) {
		b = append(b, v.Text[i])
		if v.Text[i] == 0 {
			b = append(b, nulMark)
		}
	}
	return append(b, 0, nulEnd)
}

// takeKey answers the value that the key b begins with, and how many bytes it has (0: it begins with none).
func takeKey(b []byte) (api.Value, int) {
	if len(b) == 0 || b[0] != api.KindText {
		return takeFixed(b, signShift)
	}
	var text []byte
	// One byte more than a text may have is enough to tell that it is too long.
	for i := 1; i+1 < len(b) && len(text) <= api.MaxText; i++ {
		if b[i] != 0 {
			text = append(text, b[i])
			continue
		}
		i++
		switch b[i] {
		case nulEnd:
			return value.Text(string(text)), i + 1
		case nulMark:
			text = append(text, 0)
		default:
			return api.Value{}, 0
		}
	}
	return api.Value{}, 0
}
