package encode

import (
	"math/bits"
	"slices"

	"hayloft/api"
	"hayloft/value"
)

// putDict writes the unlike values once, and of each value its place among them.
func putDict(l []api.Value) []byte {
	unlike := slices.Clone(l)
	slices.SortFunc(unlike, value.Compare)
	unlike = slices.Compact(unlike)
	places := make([]uint64, len(l))
	for i, v := range l {
		places[i] = uint64(slices.Index(unlike, v))
	}
	return join([]byte{byte(len(unlike))}, putPlain(unlike), pack(places, placeWidth(len(unlike))))
}

// takeDict reads so many values.
func takeDict(b []byte, many int) ([]api.Value, bool) {
	if len(b) == 0 || b[0] == 0 || int(b[0]) > many {
		return nil, false
	}
	unlike, b, ok := takePlain(b[1:], int(b[0]))
	if !ok {
		return nil, false
	}
	places, ok := unpack(b, many, placeWidth(len(unlike)))
	if !ok {
		return nil, false
	}
	l := make([]api.Value, many)
	for i, p := range places {
		if p >= uint64(len(unlike)) {
			return nil, false
		}
		l[i] = unlike[p]
	}
	return l, true
}

// placeWidth is in how many bits a place among n things is written.
func placeWidth(n int) int { return bits.Len(uint(n - 1)) }
