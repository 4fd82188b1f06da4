package encode_test

import (
	"math"
	"slices"
	"strings"
	"testing"

	"hayloft/api"
	"hayloft/encode"
	"hayloft/value"
)

func TestDecodeHowMany(t *testing.T) {
	for _, kind := range kinds {
		for _, many := range []int{-1, -64, 65, 66, 256, 1 << 32, math.MinInt, math.MaxInt} {
			wantUnread(t, kind, nil, many, api.ErrEncodeMany)
			wantUnread(t, kind, []byte{1, 2, 3}, many, api.ErrEncodeMany)
		}
		wantUnread(t, kind, []byte{0}, 0, api.ErrEncodeForm)
		wantUnread(t, kind, make([]byte, 9), 0, api.ErrEncodeForm)
		for _, many := range []int{1, 2, 63, 64} {
			wantUnread(t, kind, nil, many, api.ErrEncodeForm)
			wantUnread(t, kind, []byte{}, many, api.ErrEncodeForm)
		}
	}
}

// The bytes of some values are those of no other number of them, where each value has a byte at least.
func TestDecodeOtherMany(t *testing.T) {
	for _, kind := range []int{api.EncPlain, api.EncRuns, api.EncDelta} {
		for _, l := range [][]api.Value{ints(5), ints(5, 5, 6), ints(1, 2, 3, 4, 5), rising(3, 64)} {
			b, _ := encode.Encode(kind, l)
			for many := range api.MaxBlock + 1 {
				if many != len(l) {
					wantUnread(t, kind, b, many, api.ErrEncodeForm)
				}
			}
		}
	}
}

// Packed bytes may be those of several lists: what is left of the last byte is 0, and so may the first place be.
func TestDecodePackedMany(t *testing.T) {
	for _, kind := range []int{api.EncDict, api.EncBits} {
		b, _ := encode.Encode(kind, ints(7))
		for many := 1; many <= api.MaxBlock; many++ {
			wantList(t, kind, b, slices.Repeat(ints(7), many))
		}
		wantUnread(t, kind, b, 0, api.ErrEncodeForm)
		b, _ = encode.Encode(kind, ints(5, 5, 6))
		for many := range api.MaxBlock + 1 {
			if many < 3 || many > 8 {
				wantUnread(t, kind, b, many, api.ErrEncodeForm)
			} else {
				wantList(t, kind, b, append(ints(5, 5, 6), slices.Repeat(ints(5), many-3)...))
			}
		}
	}
}

// wantList wants that b is read as l.
func wantList(t *testing.T, kind int, b []byte, l []api.Value) {
	t.Helper()
	if got, e := encode.Decode(kind, b, len(l)); e != api.OK || !slices.Equal(got, l) {
		t.Errorf("P6.2: Decode(%d, %x, %d): %+v, %d, want %+v", kind, b, len(l), got, e, l)
	}
}

func TestDecodeWrong(t *testing.T) {
	const five = "0000000000000005"
	for _, k := range []struct {
		kind int
		b    string
		many int
	}{
		{api.EncPlain, "0000", 1},                                          // more than was asked for
		{api.EncPlain, "00", 2},                                            // fewer
		{api.EncPlain, "04", 1},                                            // a kind of value that there is not
		{api.EncPlain, "ff", 1},                                            // another
		{api.EncPlain, "0102", 1},                                          // a bool
		{api.EncPlain, "01", 1},                                            // half of one
		{api.EncPlain, "0200000000000000", 1},                              // an int that is cut off
		{api.EncPlain, "03", 1},                                            // a text without its length
		{api.EncPlain, "030261", 1},                                        // a text that is cut off
		{api.EncPlain, "0341" + strings.Repeat("61", 65), 1},               // one that is too long
		{api.EncRuns, "01000100", 2},                                       // two runs of one value
		{api.EncRuns, "02000100", 3},                                       // likewise
		{api.EncRuns, "0000", 1},                                           // a run of none
		{api.EncRuns, "00000100", 1},                                       // likewise, ahead
		{api.EncRuns, "01000001010100", 2},                                 // likewise, between
		{api.EncRuns, "01000000", 1},                                       // likewise, behind
		{api.EncRuns, "0200", 1},                                           // more than was asked for
		{api.EncRuns, "4100", 64},                                          // likewise
		{api.EncRuns, "ff00", 64},                                          // likewise
		{api.EncRuns, "3f0002" + "0101", 64},                               // likewise
		{api.EncRuns, "01", 1},                                             // a run without a value
		{api.EncRuns, "0102", 1},                                           // likewise
		{api.EncRuns, "0104", 1},                                           // a kind of value that there is not
		{api.EncRuns, "010000", 1},                                         // a byte behind
		{api.EncRuns, "010001", 2},                                         // half a run
		{api.EncDelta, "00000000000000", 1},                                // an int that is cut off
		{api.EncDelta, five + "00", 1},                                     // a byte behind
		{api.EncDelta, five, 2},                                            // no difference
		{api.EncDelta, five + "80", 2},                                     // one that is cut off
		{api.EncDelta, five + "8000", 2},                                   // more bytes than need be
		{api.EncDelta, five + "8100", 2},                                   // likewise
		{api.EncDelta, five + "ff8000", 2},                                 // likewise
		{api.EncDelta, five + "ffffffffffffffffff00", 2},                   // likewise
		{api.EncDelta, five + "ffffffffffffffffff02", 2},                   // more than 64 bits
		{api.EncDelta, five + "ffffffffffffffffff03", 2},                   // likewise
		{api.EncDelta, five + "ffffffffffffffffff7f", 2},                   // likewise
		{api.EncDelta, five + "ffffffffffffffffff8100", 2},                 // more than ten bytes
		{api.EncDelta, five + "8080808080808080808001", 2},                 // likewise
		{api.EncDelta, five + strings.Repeat("80", 1000), 2},               // without an end
		{api.EncDict, "00", 1},                                             // of no values
		{api.EncDict, "0000", 1},                                           // likewise
		{api.EncDict, "01", 1},                                             // a value that is not there
		{api.EncDict, "0104", 1},                                           // a kind of value that there is not
		{api.EncDict, "010000", 1},                                         // a byte behind
		{api.EncDict, "0200010000", 1},                                     // more unlike values than values
		{api.EncDict, "0200010000", 2},                                     // one that has no place
		{api.EncDict, "0200010003", 2},                                     // the other one
		{api.EncDict, "02010000" + "01", 2},                                // not rising
		{api.EncDict, "0203016203016101", 2},                               // likewise
		{api.EncDict, "02000001", 2},                                       // twice
		{api.EncDict, "02000100", 2},                                       // no places
		{api.EncDict, "020001000200", 2},                                   // a byte behind
		{api.EncDict, "0200010006", 2},                                     // what is left of the last byte is not 0
		{api.EncDict, "0200010082", 2},                                     // likewise
		{api.EncDict, "03000100010134", 3},                                 // a place that there is not
		{api.EncDict, "0300010001013f", 3},                                 // likewise
		{api.EncDict, "030001000101" + "e4", 4},                            // likewise
		{api.EncDict, "ff" + strings.Repeat("00", 300), 64},                // too many
		{api.EncBits, "0000000000000005", 1},                               // no width
		{api.EncBits, "00000000000000", 1},                                 // an int that is cut off
		{api.EncBits, five + "0000", 1},                                    // a byte behind
		{api.EncBits, five + "02", 3},                                      // no numbers
		{api.EncBits, five + "0212" + "00", 3},                             // a byte behind
		{api.EncBits, five + "0292", 3},                                    // what is left of the last byte is not 0
		{api.EncBits, five + "0252", 3},                                    // likewise
		{api.EncBits, five + "0312", 3},                                    // too few bytes
		{api.EncBits, five + "034200", 3},                                  // more bits than need be
		{api.EncBits, five + "0100", 1},                                    // likewise
		{api.EncBits, five + "0100", 8},                                    // likewise
		{api.EncBits, five + "0101", 1},                                    // the least is not there
		{api.EncBits, five + "0216", 3},                                    // likewise
		{api.EncBits, "7fffffffffffffff" + "01" + "02", 2},                 // above the greatest int
		{api.EncBits, five + "40" + "0000000000000000ffffffffffffffff", 2}, // likewise
		{api.EncBits, five + "41" + strings.Repeat("00", 9), 1},            // too wide
		{api.EncBits, five + "48" + strings.Repeat("ff", 9), 1},            // likewise
		{api.EncBits, five + "ff" + strings.Repeat("ff", 32), 1},           // likewise
		{api.EncBits, five + "80" + strings.Repeat("00", 1024), 64},        // likewise
	} {
		wantUnread(t, k.kind, unhex(t, k.b), k.many, api.ErrEncodeForm)
	}
}

// Whatever is cut off from the bytes, or put behind them, they are not those of as many values.
func TestDecodeCut(t *testing.T) {
	for _, l := range [][]api.Value{
		ints(5), ints(5, 5, 6, -7), rising(-30, 64), ints(math.MinInt64, math.MaxInt64, 0),
		list(value.Null(), value.Text("abc"), value.Bool(true), value.Int(9), value.Text("")),
	} {
		for _, kind := range kinds {
			b, e := encode.Encode(kind, l)
			if e != api.OK {
				continue
			}
			for i := range b {
				wantUnread(t, kind, b[:i], len(l), api.ErrEncodeForm)
			}
			for x := range 256 {
				wantUnread(t, kind, append(slices.Clone(b), byte(x)), len(l), api.ErrEncodeForm)
			}
		}
	}
}
