package block_test

import (
	"bytes"
	"encoding/binary"
	"encoding/hex"
	"hash/crc32"
	"math"
	"math/rand/v2"
	"slices"
	"strings"
	"testing"

	"hayloft/api"
	"hayloft/block"
	"hayloft/encode"
	"hayloft/rows"
	"hayloft/value"
)

// kinds are the five.
var kinds = []int{api.EncPlain, api.EncRuns, api.EncDelta, api.EncDict, api.EncBits}

// strange are kinds that there are not, and that do not ask for the best one.
var strange = []int{-2, 5, 6, 9, 255, 256, 257, 260, 1 << 32, 1<<32 + 1, math.MinInt, math.MaxInt}

// long is a text of n bytes.
func long(n int) string { return strings.Repeat("a", n) }

// unhex answers the bytes that s writes, two digits each, with blanks where it likes.
func unhex(t *testing.T, s string) []byte {
	t.Helper()
	b, err := hex.DecodeString(strings.ReplaceAll(s, " ", ""))
	if err != nil {
		t.Fatal(err)
	}
	return b
}

// list makes one of values.
func list(l ...api.Value) []api.Value { return l }

func ints(numbers ...int64) []api.Value {
	var l []api.Value
	for _, n := range numbers {
		l = append(l, value.Int(n))
	}
	return l
}

func texts(all ...string) []api.Value {
	var l []api.Value
	for _, s := range all {
		l = append(l, value.Text(s))
	}
	return l
}

// rising are the ints from first on, n of them.
func rising(first int64, n int) []api.Value {
	var l []api.Value
	for i := range n {
		l = append(l, value.Int(first+int64(i)))
	}
	return l
}

// unlike are n texts as long as may be.
func unlike(n int) []api.Value {
	var l []api.Value
	for i := range n {
		l = append(l, value.Text(long(api.MaxText-1)+string(rune('!'+i))))
	}
	return l
}

// wrongs are values that are not right.
func wrongs() []api.Value {
	return []api.Value{
		{Kind: -1},
		{Kind: 4},
		{Kind: 256},
		{Kind: 1<<32 + 2, Int: 5},
		{Kind: math.MinInt},
		{Bool: true},
		{Int: 1},
		{Text: "a"},
		{Kind: 1, Int: 1},
		{Kind: 2, Bool: true},
		{Kind: 2, Int: 1, Text: "1"},
		{Kind: 3, Int: 1, Text: "a"},
		{Kind: 3, Text: long(api.MaxText + 1)},
		{Kind: 3, Text: long(257)},
	}
}

// bytesOf are a value's bytes.
func bytesOf(v api.Value) []byte {
	b, e := rows.Encode([]api.Value{v})
	if e != api.OK {
		panic("a value that is not right")
	}
	return b[1:]
}

// seal puts the sum behind b, as another writer tells it.
func seal(b ...[]byte) []byte {
	all := slices.Concat(b...)
	return binary.BigEndian.AppendUint32(all, crc32.ChecksumIEEE(all))
}

// lay makes a block of what is said, right or not.
func lay(kind, many, nulls int, least, greatest, encoded []byte) []byte {
	size := binary.BigEndian.AppendUint16(nil, uint16(len(encoded)))
	return seal([]byte{byte(kind), byte(many), byte(nulls)}, least, greatest, size, encoded)
}

// model is the block of these values as the chapter tells it.
func model(t *testing.T, kind int, l []api.Value) []byte {
	t.Helper()
	encoded, e := encode.Encode(kind, l)
	if e != api.OK {
		t.Fatal(e)
	}
	sorted := slices.SortedFunc(slices.Values(l), value.Compare)
	nulls := 0
	for nulls < len(l) && sorted[nulls] == value.Null() { // nulls are below all others
		nulls++
	}
	return lay(kind, len(l), nulls, bytesOf(sorted[0]), bytesOf(sorted[len(l)-1]), encoded)
}

// write writes a block that must be.
func write(t *testing.T, kind int, l []api.Value) []byte {
	t.Helper()
	b, e := block.Write(kind, l)
	if e != api.OK {
		t.Fatalf("P7.1: Write(%d, %+v): %d", kind, l, e)
	}
	return b
}

// wantBlock wants that l is written as b, and that this is read as l, whatever stands behind it.
func wantBlock(t *testing.T, kind int, l []api.Value, b []byte) {
	t.Helper()
	if got, e := block.Write(kind, l); e != api.OK || !bytes.Equal(got, b) {
		t.Fatalf("P7.1: Write(%d, %+v): %x, %d, want %x", kind, l, got, e, b)
	}
	for _, behind := range []string{"", "\x00", "\xff\xff\xff\xff\xff", string(b)} {
		wantValues(t, append(slices.Clone(b), behind...), l, len(b))
	}
}

// wantValues wants that the block with which b begins has these values, and so many bytes.
func wantValues(t *testing.T, b []byte, l []api.Value, size int) {
	t.Helper()
	if got, n, e := block.Read(b); e != api.OK || n != size || !slices.Equal(got, l) {
		t.Fatalf("P7.3: Read(%x): %+v, %d, %d, want %+v, %d", b, got, n, e, l, size)
	}
}

// wantUnwritten wants that l is not written.
func wantUnwritten(t *testing.T, kind int, l []api.Value, want api.Errno) {
	t.Helper()
	if b, e := block.Write(kind, l); e != want || len(b) > 0 {
		t.Fatalf("P7.1: Write(%d, %d values): %x, %d, want %d", kind, len(l), b, e, want)
	}
}

// wantHead wants that b begins with a head that says this.
func wantHead(t *testing.T, b []byte, want block.Info) {
	t.Helper()
	if i, e := block.Head(b); e != api.OK || i != want {
		t.Fatalf("P7.2: Head(%x): %+v, %d, want %+v", b, i, e, want)
	}
}

// wantHeadless wants that b begins with no head, so that nothing is read of it either.
func wantHeadless(t *testing.T, why string, b []byte) {
	t.Helper()
	if i, e := block.Head(b); e != api.ErrBlockForm || i != (block.Info{}) {
		t.Fatalf("P7.2: %s: Head(%x): %+v, %d", why, b, i, e)
	}
	wantUnread(t, why, b, api.ErrBlockForm)
}

// wantUnread wants that no values are read of b.
func wantUnread(t *testing.T, why string, b []byte, want api.Errno) {
	t.Helper()
	if l, size, e := block.Read(b); e != want || size != 0 || len(l) > 0 {
		t.Fatalf("P7.3: %s: Read(%x): %+v, %d, %d, want %d", why, b, l, size, e, want)
	}
	for i, v := range block.All(b) {
		t.Fatalf("P7.4: %s: All(%x) gives %d, %+v", why, b, i, v)
	}
}

// gather are the values that All gives; their numbers must be 0, 1, 2 and so on.
func gather(t *testing.T, b []byte) []api.Value {
	t.Helper()
	var l []api.Value
	for i, v := range block.All(b) {
		if i != len(l) {
			t.Fatalf("P7.4: All(%x): number %d, want %d", b, i, len(l))
		}
		l = append(l, v)
	}
	return l
}

// anInt is any, small ones more often.
func anInt(r *rand.Rand) api.Value {
	return value.Int(int64(r.Uint64()) >> r.IntN(64))
}

// aValue is any right value.
func aValue(r *rand.Rand) api.Value {
	switch r.IntN(4) {
	case 0:
		return value.Null()
	case 1:
		return value.Bool(r.IntN(2) == 0)
	case 2:
		return anInt(r)
	}
	b := make([]byte, r.IntN(api.MaxText+1)>>r.IntN(7))
	for i := range b {
		b[i] = byte(r.Uint32())
	}
	return value.Text(string(b))
}

// aList is one of 1 to most values, which it takes from few or from many; of ints alone, if ofInts says so.
func aList(r *rand.Rand, most int, ofInts bool) []api.Value {
	one := aValue
	if ofInts {
		one = anInt
	}
	few := make([]api.Value, 1+r.IntN(70)>>r.IntN(7))
	for i := range few {
		few[i] = one(r)
	}
	l := make([]api.Value, 1+r.IntN(most))
	for i := range l {
		if i > 0 && r.IntN(3) == 0 {
			l[i] = l[i-1]
		} else {
			l[i] = few[r.IntN(len(few))]
		}
	}
	return l
}
