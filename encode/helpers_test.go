package encode_test

import (
	"bytes"
	"encoding/hex"
	"math"
	"math/rand/v2"
	"slices"
	"strings"
	"testing"

	"hayloft/api"
	"hayloft/encode"
	"hayloft/value"
)

// kinds are the five.
var kinds = []int{api.EncPlain, api.EncRuns, api.EncDelta, api.EncDict, api.EncBits}

// strange are kinds that there are not.
var strange = []int{-1, 5, 6, 9, 255, 256, 257, 260, 1 << 32, 1<<32 + 1, math.MinInt, math.MaxInt}

// long is a text of n bytes.
func long(n int) string { return strings.Repeat("a", n) }

// unhex answers the bytes that s writes, two digits each, with blanks where it likes.
func unhex(t *testing.T, s string) []byte {
	t.Helper()
	b, err := hex.DecodeString(strings.ReplaceAll(s, " ", ""))
	if err != nil {
		t.Fatal(err)
	}
	return b
}

// list makes one of values.
func list(l ...api.Value) []api.Value { return l }

func ints(numbers ...int64) []api.Value {
	var l []api.Value
	for _, n := range numbers {
		l = append(l, value.Int(n))
	}
	return l
}

func texts(all ...string) []api.Value {
	var l []api.Value
	for _, s := range all {
		l = append(l, value.Text(s))
	}
	return l
}

// rising are the ints from first on, n of them.
func rising(first int64, n int) []api.Value {
	var l []api.Value
	for i := range n {
		l = append(l, value.Int(first+int64(i)))
	}
	return l
}

// wrongs are values that are not right.
func wrongs() []api.Value {
	return []api.Value{
		{Kind: -1},
		{Kind: 4},
		{Kind: 256},
		{Kind: 1<<32 + 2, Int: 5},
		{Kind: math.MinInt},
		{Bool: true},
		{Int: 1},
		{Text: "a"},
		{Kind: 1, Int: 1},
		{Kind: 1, Bool: true, Text: "a"},
		{Kind: 2, Bool: true},
		{Kind: 2, Int: 1, Text: "1"},
		{Kind: 3, Int: 1, Text: "a"},
		{Kind: 3, Text: long(api.MaxText + 1)},
		{Kind: 3, Text: long(257)},
	}
}

// wantBytes wants that l is written as want, and that this is read as l.
func wantBytes(t *testing.T, kind int, l []api.Value, want string) {
	t.Helper()
	b := unhex(t, want)
	if got, e := encode.Encode(kind, l); e != api.OK || !bytes.Equal(got, b) {
		t.Errorf("P6.1: Encode(%d, %+v): %x, %d, want %x", kind, l, got, e, b)
	}
	if !encode.Can(kind, l) {
		t.Errorf("P6.3: Can(%d, %+v)", kind, l)
	}
	if got, e := encode.Decode(kind, b, len(l)); e != api.OK || !slices.Equal(got, l) {
		t.Errorf("P6.2: Decode(%d, %x, %d): %+v, %d, want %+v", kind, b, len(l), got, e, l)
	}
}

// wantRefused wants that l is not written.
func wantRefused(t *testing.T, kind int, l []api.Value, want api.Errno) {
	t.Helper()
	if b, e := encode.Encode(kind, l); e != want || len(b) > 0 {
		t.Errorf("P6.1: Encode(%d, %+v): %x, %d, want %d", kind, l, b, e, want)
	}
	if encode.Can(kind, l) {
		t.Errorf("P6.3: Can(%d, %+v)", kind, l)
	}
}

// wantUnread wants that b is not read as many values.
func wantUnread(t *testing.T, kind int, b []byte, many int, want api.Errno) {
	t.Helper()
	if l, e := encode.Decode(kind, b, many); e != want || len(l) > 0 {
		t.Errorf("P6.2: Decode(%d, %x, %d): %+v, %d, want %d", kind, b, many, l, e, want)
	}
}

// anInt is any, small ones more often.
func anInt(r *rand.Rand) api.Value {
	return value.Int(int64(r.Uint64()) >> r.IntN(64))
}

// aValue is any right value.
func aValue(r *rand.Rand) api.Value {
	switch r.IntN(4) {
	case 0:
		return value.Null()
	case 1:
		return value.Bool(r.IntN(2) == 0)
	case 2:
		return anInt(r)
	}
	b := make([]byte, r.IntN(api.MaxText+1)>>r.IntN(7))
	for i := range b {
		b[i] = byte(r.Uint32())
	}
	return value.Text(string(b))
}

// aList is one of at most so many values, which it takes from few or from many; of ints alone, if ofInts says so.
func aList(r *rand.Rand, most int, ofInts bool) []api.Value {
	one := aValue
	if ofInts {
		one = anInt
	}
	few := make([]api.Value, 1+r.IntN(70))
	for i := range few {
		few[i] = one(r)
	}
	l := make([]api.Value, r.IntN(most+1))
	for i := range l {
		if i > 0 && r.IntN(3) == 0 {
			l[i] = l[i-1]
		} else {
			l[i] = few[r.IntN(len(few))]
		}
	}
	return l
}
