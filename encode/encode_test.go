package encode_test

import (
	"math"
	"slices"
	"strings"
	"testing"

	"hayloft/api"
	"hayloft/encode"
	"hayloft/value"
)

func TestPlain(t *testing.T) {
	wantBytes(t, api.EncPlain, []api.Value{}, "")
	wantBytes(t, api.EncPlain, list(value.Null()), "00")
	wantBytes(t, api.EncPlain, list(value.Bool(true), value.Null(), value.Text("ab"), value.Int(-2), value.Bool(false)), "0101 00 03026162 02fffffffffffffffe 0100")
	wantBytes(t, api.EncPlain, texts("", long(api.MaxText)), "0300 0340"+strings.Repeat("61", 64))
	wantBytes(t, api.EncPlain, make([]api.Value, api.MaxBlock), strings.Repeat("00", 64))
	wantBytes(t, api.EncPlain, slices.Repeat(texts(long(api.MaxText)), api.MaxBlock), strings.Repeat("0340"+strings.Repeat("61", 64), 64))
	wantBytes(t, api.EncPlain, slices.Repeat(ints(math.MinInt64), 17), strings.Repeat("028000000000000000", 17))
}

func TestRuns(t *testing.T) {
	wantBytes(t, api.EncRuns, list(value.Null()), "01 00")
	wantBytes(t, api.EncRuns, ints(5, 5, 6, 5), "02 020000000000000005 01 020000000000000006 01 020000000000000005")
	wantBytes(t, api.EncRuns, list(value.Bool(true), value.Bool(true), value.Bool(false), value.Null(), value.Text("")), "02 0101 01 0100 01 00 01 0300")
	wantBytes(t, api.EncRuns, make([]api.Value, api.MaxBlock), "40 00")
	wantBytes(t, api.EncRuns, slices.Repeat(texts("a", "b"), 32), strings.Repeat("01030161 01030162", 32))
	wantBytes(t, api.EncRuns, append(slices.Repeat(texts("a"), 63), value.Text("aa")), "3f 030161 01 03026161")
}

func TestDelta(t *testing.T) {
	const none = "0000000000000000"
	wantBytes(t, api.EncDelta, ints(0), none)
	wantBytes(t, api.EncDelta, ints(-1), "ffffffffffffffff")
	wantBytes(t, api.EncDelta, ints(math.MinInt64), "8000000000000000")
	wantBytes(t, api.EncDelta, ints(0x0123456789abcdef), "0123456789abcdef")
	for _, k := range []struct {
		d    int64
		want string
	}{
		{0, "00"}, {-1, "01"}, {1, "02"}, {-2, "03"}, {2, "04"},
		{63, "7e"}, {-64, "7f"}, {64, "8001"}, {-65, "8101"}, {65, "8201"},
		{8191, "fe7f"}, {-8192, "ff7f"}, {8192, "808001"}, {-8193, "818001"},
		{1<<20 - 1, "feff7f"}, {-1 << 20, "ffff7f"}, {1 << 20, "80808001"},
		{1<<62 - 1, "feffffffffffffff7f"}, {-1 << 62, "ffffffffffffffff7f"},
		{1 << 62, "80808080808080808001"}, {-1<<62 - 1, "81808080808080808001"},
		{math.MaxInt64, "feffffffffffffffff01"}, {math.MinInt64, "ffffffffffffffffff01"},
	} {
		wantBytes(t, api.EncDelta, ints(0, k.d), none+k.want)
		wantBytes(t, api.EncDelta, ints(7, 7+k.d), "0000000000000007"+k.want) // wraps round for the greatest
		wantBytes(t, api.EncDelta, ints(0, k.d, 2*k.d), none+k.want+k.want)
	}
	wantBytes(t, api.EncDelta, ints(math.MaxInt64, math.MinInt64), "7fffffffffffffff 02") // modulo 2^64 it is 1 above
	wantBytes(t, api.EncDelta, ints(math.MinInt64, math.MaxInt64), "8000000000000000 01")
	wantBytes(t, api.EncDelta, rising(-1, api.MaxBlock), "ffffffffffffffff"+strings.Repeat("02", 63))
	wantBytes(t, api.EncDelta, slices.Repeat(ints(0, math.MinInt64), 32), none+strings.Repeat("ffffffffffffffffff01", 63))
}

func TestDict(t *testing.T) {
	wantBytes(t, api.EncDict, list(value.Null()), "01 00")
	wantBytes(t, api.EncDict, make([]api.Value, api.MaxBlock), "01 00") // no bit for a place
	wantBytes(t, api.EncDict, texts("b", "a", "b", "b", "a", "b", "b", "b", "b"), "02 030161 030162 ed01")
	wantBytes(t, api.EncDict, list(value.Text(""), value.Int(-1), value.Bool(true), value.Null()), "04 00 0101 02ffffffffffffffff 0300 1b")
	wantBytes(t, api.EncDict, list(value.Null(), value.Bool(false), value.Bool(true)), "03 00 0100 0101 24")
	wantBytes(t, api.EncDict, ints(1, -1), "02 02ffffffffffffffff 020000000000000001 01") // below 0 comes first, though its bytes do not
	wantBytes(t, api.EncDict, texts("b", "aa", "a"), "03 030161 03026161 030162 06")      // by bytes, not by how many
	for _, k := range []struct{ n, width int }{{1, 0}, {2, 1}, {3, 2}, {4, 2}, {5, 3}, {8, 3}, {9, 4}, {16, 4}, {17, 5}, {32, 5}, {33, 6}, {63, 6}, {64, 6}} {
		l := rising(0, k.n)
		b, e := encode.Encode(api.EncDict, l)
		if want := 1 + 9*k.n + (k.n*k.width+7)/8; e != api.OK || len(b) != want {
			t.Errorf("P6.1: a dictionary of %d: %d bytes, %d, want %d", k.n, len(b), e, want)
		}
		slices.Reverse(l)
		back, e := encode.Encode(api.EncDict, l)
		if e != api.OK || !slices.Equal(back[:1+9*k.n], b[:1+9*k.n]) {
			t.Errorf("P6.1: a dictionary of %d hangs on the order of the values", k.n)
		}
	}
}

func TestBits(t *testing.T) {
	wantBytes(t, api.EncBits, ints(0), "0000000000000000 00")
	wantBytes(t, api.EncBits, ints(-1), "ffffffffffffffff 00")
	wantBytes(t, api.EncBits, slices.Repeat(ints(3), api.MaxBlock), "0000000000000003 00")
	wantBytes(t, api.EncBits, ints(5, 4), "0000000000000004 01 01")
	wantBytes(t, api.EncBits, ints(-3, 4), "fffffffffffffffd 03 38")
	wantBytes(t, api.EncBits, ints(0, 255), "0000000000000000 08 00ff")
	wantBytes(t, api.EncBits, ints(256, 0), "0000000000000000 09 000100")
	wantBytes(t, api.EncBits, ints(0, 256, 511), "0000000000000000 09 0000fe07")
	wantBytes(t, api.EncBits, ints(0, 0x1234), "0000000000000000 0d 0080 4602")
	wantBytes(t, api.EncBits, ints(math.MinInt64, math.MaxInt64), "8000000000000000 40 0000000000000000 ffffffffffffffff")
	wantBytes(t, api.EncBits, ints(math.MaxInt64, math.MinInt64, 0), "8000000000000000 40 ffffffffffffffff 0000000000000000 0000000000000080")
	wantBytes(t, api.EncBits, ints(0, math.MaxInt64), "0000000000000000 3f 00000000000000 80 ffffffffffffff 3f")
	wantBytes(t, api.EncBits, slices.Repeat(ints(0, 1), 32), "0000000000000000 01 aaaaaaaaaaaaaaaa")
	for width := range 65 {
		far := int64(0)
		if width > 0 {
			far = int64(uint64(1)<<(width-1)) + math.MinInt64
		} else {
			far = math.MinInt64
		}
		b, e := encode.Encode(api.EncBits, ints(far, math.MinInt64, far))
		if e != api.OK || len(b) != 9+(3*width+7)/8 || b[8] != byte(width) {
			t.Errorf("P6.1: in %d bits: %x, %d", width, b, e)
		}
	}
}

func TestOfNone(t *testing.T) {
	for _, kind := range kinds {
		wantBytes(t, kind, nil, "")
		wantBytes(t, kind, []api.Value{}, "")
	}
}

func TestStrangeKinds(t *testing.T) {
	for _, kind := range strange {
		wantRefused(t, kind, nil, api.ErrEncodeKind)
		wantRefused(t, kind, ints(1), api.ErrEncodeKind)
		wantRefused(t, kind, make([]api.Value, 65), api.ErrEncodeKind)    // ahead of too many
		wantRefused(t, kind, list(api.Value{Kind: 9}), api.ErrEncodeKind) // ahead of a wrong value
		wantUnread(t, kind, nil, 0, api.ErrEncodeKind)
		wantUnread(t, kind, []byte{0}, 1, api.ErrEncodeKind)
		wantUnread(t, kind, nil, -1, api.ErrEncodeKind)
		wantUnread(t, kind, nil, 65, api.ErrEncodeKind)
	}
}

func TestTooMany(t *testing.T) {
	for _, kind := range kinds {
		for _, n := range []int{65, 66, 255, 256, 257, 320, 1000} {
			wantRefused(t, kind, rising(0, n), api.ErrEncodeMany)
			wantRefused(t, kind, slices.Repeat(ints(7), n), api.ErrEncodeMany)
			wantRefused(t, kind, make([]api.Value, n), api.ErrEncodeMany)                             // ahead of no int
			wantRefused(t, kind, append(make([]api.Value, n), api.Value{Kind: 9}), api.ErrEncodeMany) // ahead of a wrong value
		}
	}
}

func TestWrongValues(t *testing.T) {
	for _, kind := range kinds {
		for _, v := range wrongs() {
			wantRefused(t, kind, list(v), api.ErrEncodeForm)
			wantRefused(t, kind, list(v, value.Int(1)), api.ErrEncodeForm)
			wantRefused(t, kind, append(rising(1, 63), v), api.ErrEncodeForm)
			wantRefused(t, kind, list(value.Null(), v), api.ErrEncodeForm) // ahead of no int
			wantRefused(t, kind, list(v, value.Text("a")), api.ErrEncodeForm)
		}
	}
}

func TestNoInts(t *testing.T) {
	for _, kind := range []int{api.EncDelta, api.EncBits} {
		for _, v := range list(value.Null(), value.Bool(false), value.Bool(true), value.Text(""), value.Text("1")) {
			wantRefused(t, kind, list(v), api.ErrEncodeKind)
			wantRefused(t, kind, list(v, value.Int(1)), api.ErrEncodeKind)
			wantRefused(t, kind, append(rising(1, 63), v), api.ErrEncodeKind)
		}
	}
}
