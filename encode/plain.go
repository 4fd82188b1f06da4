package encode

import (
	"hayloft/api"
	"hayloft/rows"
)

// putPlain writes each value's bytes.
func putPlain(l []api.Value) []byte {
	pieces := make([][]byte, len(l))
	for i, v := range l {
		pieces[i] = valueBytes(v)
	}
	return join(pieces...)
}

// takePlain reads so many values, and answers the bytes behind them.
func takePlain(b []byte, many int) ([]api.Value, []byte, bool) {
	l := make([]api.Value, many)
	for i := range l {
		v, size := takeValue(b)
		if size == 0 {
			return nil, nil, false
		}
		l[i] = v
		b = b[size:]
	}
	return l, b, true
}

// valueBytes are those of a value that is right: its row's, but for the byte ahead that counts the values.
func valueBytes(v api.Value) []byte {
	b, e := rows.Encode([]api.Value{v})
	if e != api.OK {
		return nil
	}
	return b[1:]
}

// takeValue answers the value whose bytes b begins with, and how many these are (0: they are none's).
func takeValue(b []byte) (api.Value, int) {
	size := valueSize(b)
	if size == 0 || size > len(b) {
		return api.Value{}, 0
	}
	row, e := rows.Decode(join([]byte{1}, b[:size]))
	if e != api.OK {
		return api.Value{}, 0
	}
	return row[0], size
}

// valueSize is how many bytes a value has that begins as b does; 0, if none does.
func valueSize(b []byte) int {
	if len(b) == 0 {
		return 0
	}
	switch b[0] {
	case api.KindNull:
		return 1
	case api.KindBool:
		return 2
	case api.KindInt:
		return 1 + wordSize
	case api.KindText:
		if len(b) > 1 {
			return 2 + int(b[1])
		}
	}
	return 0
}

// join lays pieces one behind the other, in memory of its own.
func join(pieces ...[]byte) []byte {
	size := 0
	for _, p := range pieces {
		size += len(p)
	}
	b := make([]byte, size)
	at := 0
	for _, p := range pieces {
		at += copy(b[at:], p)
	}
	return b
}
