package rows_test

import (
	"encoding/hex"
	"math"
	"slices"
	"strings"
	"testing"

	"hayloft/api"
	"hayloft/rows"
	"hayloft/value"
)

// long is a text of n bytes.
func long(n int) string { return strings.Repeat("a", n) }

// unhex answers the bytes that s writes, two digits each, with blanks where it likes.
func unhex(t *testing.T, s string) []byte {
	t.Helper()
	b, err := hex.DecodeString(strings.ReplaceAll(s, " ", ""))
	if err != nil {
		t.Fatal(err)
	}
	return b
}

// row makes one of values.
func row(l ...api.Value) []api.Value { return l }

// written are values, their bytes, and what a key has of them.
var written = []struct {
	v          api.Value
	bytes, key string
}{
	{value.Null(), "00", "00"},
	{value.Bool(false), "01 00", "01 00"},
	{value.Bool(true), "01 01", "01 01"},
	{value.Int(math.MinInt64), "02 8000000000000000", "02 0000000000000000"},
	{value.Int(math.MinInt64 + 1), "02 8000000000000001", "02 0000000000000001"},
	{value.Int(-256), "02 ffffffffffffff00", "02 7fffffffffffff00"},
	{value.Int(-2), "02 fffffffffffffffe", "02 7ffffffffffffffe"},
	{value.Int(-1), "02 ffffffffffffffff", "02 7fffffffffffffff"},
	{value.Int(0), "02 0000000000000000", "02 8000000000000000"},
	{value.Int(1), "02 0000000000000001", "02 8000000000000001"},
	{value.Int(255), "02 00000000000000ff", "02 80000000000000ff"},
	{value.Int(256), "02 0000000000000100", "02 8000000000000100"},
	{value.Int(0x0123456789abcdef), "02 0123456789abcdef", "02 8123456789abcdef"},
	{value.Int(math.MaxInt64), "02 7fffffffffffffff", "02 ffffffffffffffff"},
	{value.Text(""), "03 00", "03 0000"},
	{value.Text("a"), "03 01 61", "03 61 0000"},
	{value.Text("ab"), "03 02 6162", "03 6162 0000"},
	{value.Text("\x00"), "03 01 00", "03 00ff 0000"},
	{value.Text("\x00\x00"), "03 02 0000", "03 00ff00ff 0000"},
	{value.Text("\x00\xff"), "03 02 00ff", "03 00ffff 0000"},
	{value.Text("\xff"), "03 01 ff", "03 ff 0000"},
	{value.Text("\xff\x00"), "03 02 ff00", "03 ff00ff 0000"},
	{value.Text("a\x00b"), "03 03 610062", "03 6100ff62 0000"},
	{value.Text("\x01"), "03 01 01", "03 01 0000"},
	{value.Text("é"), "03 02 c3a9", "03 c3a9 0000"},
	{value.Text(long(api.MaxText)), "03 40" + strings.Repeat("61", 64), "03" + strings.Repeat("61", 64) + "0000"},
	{value.Text(strings.Repeat("\x00", api.MaxText)), "03 40" + strings.Repeat("00", 64), "03" + strings.Repeat("00ff", 64) + "0000"},
}

// wrongs are values that are not right.
func wrongs() []api.Value {
	return []api.Value{
		{Kind: -1},
		{Kind: 4},
		{Kind: 9},
		{Kind: 256},
		{Kind: 257, Bool: true},
		{Kind: 1<<32 + 2, Int: 5},
		{Kind: math.MinInt},
		{Kind: math.MaxInt},
		{Bool: true},
		{Int: 1},
		{Text: "a"},
		{Kind: 1, Int: 1},
		{Kind: 1, Bool: true, Text: "a"},
		{Kind: 2, Bool: true},
		{Kind: 2, Int: 1, Text: "1"},
		{Kind: 3, Bool: true, Text: "a"},
		{Kind: 3, Int: 1, Text: "a"},
		{Kind: 3, Text: long(api.MaxText + 1)},
		{Kind: 3, Text: long(256)},
		{Kind: 3, Text: long(1000)},
	}
}

// wantEncode wants that l is written as want, and that this is read as l.
func wantEncode(t *testing.T, l []api.Value, want string) {
	t.Helper()
	bytes := unhex(t, want)
	if b, e := rows.Encode(l); e != api.OK || !slices.Equal(b, bytes) {
		t.Errorf("P3.1: Encode(%+v): %x, %d, want %x", l, b, e, bytes)
	}
	if r, e := rows.Decode(bytes); e != api.OK || !slices.Equal(r, l) {
		t.Errorf("P3.1: Decode(%x): %+v, %d, want %+v", bytes, r, e, l)
	}
}

func TestEncode(t *testing.T) {
	wantEncode(t, nil, "00")
	wantEncode(t, row(), "00")
	wantEncode(t, row(value.Null(), value.Bool(true), value.Int(1), value.Text("ab")), "04 00 0101 020000000000000001 03026162")
	wantEncode(t, row(value.Text("ab"), value.Null(), value.Text(""), value.Bool(false)), "04 03026162 00 0300 0100")
	for _, k := range written {
		wantEncode(t, row(k.v), "01"+k.bytes)
		wantEncode(t, row(k.v, k.v), "02"+k.bytes+k.bytes)
		wantEncode(t, row(value.Int(-1), k.v, value.Text("z")), "03 02ffffffffffffffff"+k.bytes+"03017a")
		wantEncode(t, slices.Repeat(row(k.v), 16), "10"+strings.Repeat(k.bytes, 16))
	}
}

// wantNoBytes wants that neither Encode nor Key takes l.
func wantNoBytes(t *testing.T, l []api.Value) {
	t.Helper()
	if b, e := rows.Encode(l); len(b) > 0 || e != api.ErrRowsForm {
		t.Errorf("P3.1: Encode(%+v): %x, %d", l, b, e)
	}
	if b, e := rows.Key(l); len(b) > 0 || e != api.ErrRowsForm {
		t.Errorf("P3.2: Key(%+v): %x, %d", l, b, e)
	}
}

func TestWrongRows(t *testing.T) {
	for _, n := range []int{17, 18, 255, 256, 257, 272, 1000} {
		wantNoBytes(t, make([]api.Value, n))
	}
	for _, v := range wrongs() {
		wantNoBytes(t, row(v))
		wantNoBytes(t, row(v, value.Int(1)))
		wantNoBytes(t, row(value.Int(1), value.Text("a"), v))
		wantNoBytes(t, append(make([]api.Value, 15), v))
		wantNoBytes(t, append(make([]api.Value, 16), v))
	}
	for _, k := range written {
		wantNoBytes(t, slices.Repeat(row(k.v), 17))
	}
}

// wantNoRow wants that b is no row's Encode.
func wantNoRow(t *testing.T, b []byte) {
	t.Helper()
	if r, e := rows.Decode(b); len(r) > 0 || e != api.ErrRowsForm {
		t.Errorf("P3.1: Decode(%x): %+v, %d", b, r, e)
	}
}

func TestDecodeWrong(t *testing.T) {
	wantNoRow(t, nil)
	for _, s := range []string{
		"01", "02", "10", "11", "ff", // values that are not there
		"0000", "0001", "00ff", "010000", "01010000", "0102000000000000000000", "01036100", "01030061", // more behind them
		"0200", "020100", "0301000100", // fewer than it says
		"0104", "0109", "01ff", "0180", "010400", "02000400", // a kind that there is not
		"0101", "010102", "0101ff", "010180", // a bool
		"0102", "010200", "010200000000000000", // an int that is cut off
		"0103", "010301", "01030261", "010340", "0103ff", // a text that is cut off
		"11" + strings.Repeat("00", 17), "12" + strings.Repeat("00", 18), "ff" + strings.Repeat("00", 255), // too many
		"10" + strings.Repeat("00", 15), "10" + strings.Repeat("00", 17),
		"010341" + strings.Repeat("61", 65), "0103ff" + strings.Repeat("61", 255), // too long
		"010340" + strings.Repeat("61", 63), "010340" + strings.Repeat("61", 65),
	} {
		wantNoRow(t, unhex(t, s))
	}
}

// Whatever is cut off from a row's bytes, or put behind them, they are no row's.
func TestDecodeCut(t *testing.T) {
	for _, k := range written {
		b, _ := rows.Encode(row(k.v, value.Int(7), k.v))
		for i := range b {
			wantNoRow(t, b[:i])
		}
		for x := range 256 {
			wantNoRow(t, append(slices.Clone(b), byte(x)))
		}
	}
}
