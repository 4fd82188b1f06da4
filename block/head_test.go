package block_test

import (
	"fmt"
	"math"
	"slices"
	"testing"

	"hayloft/api"
	"hayloft/block"
	"hayloft/rows"
	"hayloft/value"
)

func TestHead(t *testing.T) {
	for _, k := range []struct {
		kind int
		l    []api.Value
		want block.Info
	}{
		{api.EncPlain, list(value.Bool(true)), block.Info{Many: 1, Min: value.Bool(true), Max: value.Bool(true), Bytes: 15}},
		{api.EncPlain, list(value.Null(), value.Null()), block.Info{Many: 2, Nulls: 2, Bytes: 13}},
		{api.EncRuns, list(value.Int(4), value.Null(), value.Int(-2)), block.Info{Kind: 1, Many: 3, Nulls: 1, Max: value.Int(4), Bytes: 41}},
		{api.EncDelta, ints(4, math.MinInt64, math.MaxInt64), block.Info{Kind: 2, Many: 3, Min: value.Int(math.MinInt64), Max: value.Int(math.MaxInt64), Bytes: 46}},
		{api.EncDict, list(value.Text("b"), value.Int(9), value.Text("")), block.Info{Kind: 3, Many: 3, Min: value.Int(9), Max: value.Text("b"), Bytes: 37}},
		{api.EncBits, slices.Repeat(ints(7), 64), block.Info{Kind: 4, Many: 64, Min: value.Int(7), Max: value.Int(7), Bytes: 36}},
		{api.EncPlain, texts(long(64)), block.Info{Many: 1, Min: value.Text(long(64)), Max: value.Text(long(64)), Bytes: 207}},
	} {
		b := write(t, k.kind, k.l)
		if k.want.Bytes != len(b) {
			t.Errorf("P7.2: %+v has %d bytes", k.want, len(b))
		}
		wantHead(t, b, k.want)
		wantHead(t, append(b, 1, 2, 3), k.want)
	}
}

// A block that b does not have whole is none, wherever it is cut.
func TestHeadCut(t *testing.T) {
	for _, l := range [][]api.Value{ints(5), list(value.Null(), value.Bool(true)), texts("abc", "d"), unlike(5)} {
		b := write(t, -1, l)
		for n := range b {
			wantHeadless(t, "cut", b[:n])
		}
	}
}

func TestHeadNumbers(t *testing.T) {
	one := bytesOf(value.Int(1))
	for x := range 256 {
		for _, k := range []struct {
			why               string
			kind, many, nulls int
			right             bool
		}{
			{"kind", x, 3, 1, x <= 4},
			{"how many", 0, x, 0, x >= 1 && x <= 64},
			{"nulls", 0, 3, x, x <= 3},
			{"nulls of all", 0, 64, x, x <= 64},
			{"all are null", 0, x, x, x >= 1 && x <= 64},
			{"one more is null", 0, x, x + 1, false},
		} {
			b := lay(k.kind, k.many, k.nulls, one, one, []byte("no encoding"))
			if !k.right {
				wantHeadless(t, fmt.Sprint(k.why, " ", x), b)
				continue
			}
			wantHead(t, b, block.Info{Kind: k.kind, Many: k.many, Nulls: k.nulls, Min: value.Int(1), Max: value.Int(1), Bytes: len(b)})
			wantUnread(t, k.why, b, api.ErrBlockForm)
		}
	}
}

// spoilt are bytes that are no value's.
func spoilt(t *testing.T) [][]byte {
	l := [][]byte{
		unhex(t, "04"), unhex(t, "05 00"), unhex(t, "80"), unhex(t, "ff"),
		unhex(t, "01 02"), unhex(t, "01 03"), unhex(t, "01 fd"), unhex(t, "01 ff"),
		append(unhex(t, "03 41"), long(65)...),
		append(unhex(t, "03 fc"), long(252)...),
		append(unhex(t, "03 fd"), long(253)...),
		append(unhex(t, "03 fd 00 01"), long(300)...), // a length of another form
		append(unhex(t, "03 fe 00 00 00 01"), long(300)...),
		append(unhex(t, "03 ff 00 00 00 00 00 00 00 01"), long(300)...),
		append(unhex(t, "03 ff"), long(255)...),
	}
	for _, b := range l {
		if _, e := rows.Decode(append([]byte{1}, b...)); e == api.OK {
			t.Fatalf("%x is a value's", b)
		}
	}
	return l
}

func TestHeadValues(t *testing.T) {
	right := list(value.Null(), value.Bool(false), value.Bool(true), value.Int(0), value.Int(-1), value.Int(math.MinInt64),
		value.Text(""), value.Text("a"), value.Text("\x00\xff"), value.Text(long(63)), value.Text(long(64)))
	for _, least := range right {
		for _, greatest := range right { // in whichever order: the values are not asked
			b := lay(api.EncDict, 9, 4, bytesOf(least), bytesOf(greatest), []byte("xyz"))
			wantHead(t, b, block.Info{Kind: api.EncDict, Many: 9, Nulls: 4, Min: least, Max: greatest, Bytes: len(b)})
		}
		for _, b := range spoilt(t) {
			wantHeadless(t, "the least value", lay(0, 1, 0, b, bytesOf(least), []byte(long(500))))
			wantHeadless(t, "the greatest value", lay(0, 1, 0, bytesOf(least), b, []byte(long(500))))
		}
	}
	for _, b := range spoilt(t) {
		wantHeadless(t, "both values", lay(0, 1, 0, b, b, []byte(long(500))))
	}
}

// How long the encoding is, is told by 2 bytes; neither it nor the sum is asked.
func TestHeadEncoding(t *testing.T) {
	one := bytesOf(value.Int(1))
	for _, n := range []int{0, 1, 254, 255, 256, 257, 511, 512, 32767, 32768, 65280, 65535} {
		b := lay(api.EncPlain, 1, 0, one, one, make([]byte, n))
		want := block.Info{Many: 1, Min: value.Int(1), Max: value.Int(1), Bytes: 3 + 18 + 2 + n + 4}
		wantHead(t, b, want)
		copy(b[len(b)-4:], "none") // no such sum
		wantHead(t, b, want)
		wantHead(t, append(b, b...), want)
		wantHeadless(t, "a byte is missing", b[:len(b)-1])
		wantHeadless(t, "the sum is missing", b[:len(b)-4])
	}
}

func TestHeadIgnoresTheRest(t *testing.T) {
	b := write(t, api.EncRuns, texts("a", "b", "b"))
	want := block.Info{Kind: api.EncRuns, Many: 3, Min: value.Text("a"), Max: value.Text("b"), Bytes: len(b)}
	for i := 3 + 3 + 3 + 2; i < len(b); i++ {
		for bit := range 8 {
			spoilt := slices.Clone(b)
			spoilt[i] ^= 1 << bit
			wantHead(t, spoilt, want)
		}
	}
}
