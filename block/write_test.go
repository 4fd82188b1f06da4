package block_test

import (
	"bytes"
	"math/rand/v2"
	"slices"
	"testing"

	"hayloft/api"
	"hayloft/block"
	"hayloft/encode"
	"hayloft/value"
)

func TestWriteBytes(t *testing.T) {
	const four, five, six, seven = "0000000000000004", "0000000000000005", "0000000000000006", "0000000000000007"
	for _, k := range []struct {
		kind  int
		l     []api.Value
		front string // all but the sum
	}{
		{api.EncPlain, list(value.Null()), "00 01 01 00 00 0001 00"},
		{api.EncPlain, list(value.Bool(true), value.Bool(false)), "00 02 00 0100 0101 0004 0101 0100"},
		{api.EncPlain, texts("b", "", "ab"), "00 03 00 0300 030162 0009 030162 0300 03026162"},
		{api.EncRuns, list(value.Int(5), value.Int(5), value.Null()), "01 03 01 00 02" + five + "000c 0202" + five + "0100"},
		{api.EncDelta, ints(5, 4, 6), "02 03 00 02" + four + "02" + six + "000a" + five + "0104"},
		{api.EncDict, texts("b", "a", "b"), "03 03 00 030161 030162 0008 02 030161 030162 05"},
		{api.EncBits, ints(7, 5, 6), "04 03 00 02" + five + "02" + seven + "000a" + five + "0212"},
		{api.EncPlain, ints(0, -1), "00 02 00 02ffffffffffffffff 020000000000000000 0012 020000000000000000 02ffffffffffffffff"},
		{api.EncRuns, make([]api.Value, api.MaxBlock), "01 40 40 00 00 0002 4000"},
		{api.EncDict, list(value.Text("a"), value.Null(), value.Int(4), value.Bool(true)), "03 04 01 00 030161 0011 04 00 0101 02" + four + "030161 63"},
	} {
		wantBlock(t, k.kind, k.l, seal(unhex(t, k.front)))
	}
}

// The best kind of encoding, and the 2 bytes of how long it is where one would not do.
func TestWriteBest(t *testing.T) {
	for _, l := range [][]api.Value{
		list(value.Null()), ints(5), ints(5, 5, 5), rising(1000, 64), make([]api.Value, 64),
		slices.Repeat(texts("ab", "cd"), 20), texts("a", "b", "c"), unlike(64), unlike(4), texts(long(64)),
		append(slices.Repeat(texts(long(64)), 40), texts("")...),
	} {
		best := encode.Best(l)
		wantBlock(t, -1, l, model(t, best, l))
		wantBlock(t, best, l, model(t, best, l))
	}
}

func TestWriteModel(t *testing.T) {
	r := rand.New(rand.NewPCG(7, 1))
	for range 2000 {
		l := aList(r, 64>>r.IntN(6), r.IntN(2) == 0)
		for _, kind := range kinds {
			if encode.Can(kind, l) {
				wantBlock(t, kind, l, model(t, kind, l))
			}
		}
		if b := write(t, -1, l); !bytes.Equal(b, model(t, encode.Best(l), l)) {
			t.Fatalf("P7.1: Write(-1, %+v): %x", l, b)
		}
	}
}

func TestWriteHowMany(t *testing.T) {
	for _, n := range []int{1, 2, 63, 64} {
		for _, kind := range kinds {
			wantBlock(t, kind, rising(-3, n), model(t, kind, rising(-3, n)))
		}
	}
	for _, n := range []int{65, 66, 256, 257, 1000} {
		for _, kind := range append([]int{-1}, kinds...) {
			wantUnwritten(t, kind, rising(-3, n), api.ErrEncodeMany)
		}
	}
}

func TestWriteWrong(t *testing.T) {
	for _, kind := range strange {
		wantUnwritten(t, kind, ints(1), api.ErrEncodeKind)
		wantUnwritten(t, kind, rising(1, 65), api.ErrEncodeKind) // the kind is asked ahead of the number
		wantUnwritten(t, kind, nil, api.ErrBlockForm)            // that there is none ahead of both
		wantUnwritten(t, kind, []api.Value{}, api.ErrBlockForm)
	}
	for _, v := range wrongs() {
		for _, kind := range append([]int{-1}, kinds...) {
			wantUnwritten(t, kind, list(v), api.ErrEncodeForm)
			wantUnwritten(t, kind, list(value.Int(1), v, value.Int(2)), api.ErrEncodeForm)
			wantUnwritten(t, kind, append(rising(0, 64), v), api.ErrEncodeMany)
		}
	}
	for _, v := range list(value.Null(), value.Bool(true), value.Text("1")) {
		for _, kind := range []int{api.EncDelta, api.EncBits} {
			wantUnwritten(t, kind, list(value.Int(1), v), api.ErrEncodeKind)
		}
	}
}

// The 2 bytes hold the length of every encoding that there may be.
func TestWriteLongest(t *testing.T) {
	l := unlike(64)
	for _, k := range []struct{ kind, encoded int }{
		{api.EncPlain, 64 * 66}, {api.EncRuns, 64 * 67}, {api.EncDict, 1 + 64*66 + 48},
	} {
		b := write(t, k.kind, l)
		head := 3 + 2*66 + 2
		if len(b) != head+k.encoded+4 || int(b[head-2])<<8+int(b[head-1]) != k.encoded {
			t.Errorf("P7.1: kind %d: %d bytes, %x", k.kind, len(b), b[:head])
		}
		wantHead(t, b, block.Info{Kind: k.kind, Many: 64, Min: l[0], Max: l[63], Bytes: len(b)})
		wantValues(t, b, l, len(b))
	}
}
