package block_test

import (
	"slices"
	"testing"

	"hayloft/api"
	"hayloft/block"
	"hayloft/encode"
	"hayloft/value"
)

// A bit that is turned anywhere: either the head is none any more, or the sum is wrong.
func TestReadBitTurned(t *testing.T) {
	for _, l := range [][]api.Value{
		ints(5), ints(5, 5, 6, -7), rising(-30, 64), texts("abc", "", "x"), make([]api.Value, 3),
		list(value.Null(), value.Text("abc"), value.Bool(true), value.Int(9)),
	} {
		for _, kind := range kinds {
			if !encode.Can(kind, l) {
				continue
			}
			b := write(t, kind, l)
			for i := range 8 * len(b) {
				turned := slices.Clone(b)
				turned[i/8] ^= 1 << (i % 8)
				_, want := block.Head(turned)
				if want == api.OK {
					want = api.ErrBlockSum
				}
				wantUnread(t, "a bit turned", turned, want)
			}
		}
	}
}

func TestReadWrongSum(t *testing.T) {
	b := write(t, api.EncPlain, texts("a", "b"))
	for i := range 4 {
		for x := 1; x < 256; x++ {
			wrong := slices.Clone(b)
			wrong[len(b)-4+i] ^= byte(x)
			wantUnread(t, "wrong sum", wrong, api.ErrBlockSum)
		}
	}
	reversed := slices.Clone(b)
	slices.Reverse(reversed[len(b)-4:])
	wantUnread(t, "the sum's lowest byte first", reversed, api.ErrBlockSum)
	// The sum is asked ahead of all that is not the head's form.
	one, two := bytesOf(value.Int(1)), bytesOf(value.Int(2))
	for _, b := range [][]byte{
		lay(api.EncPlain, 1, 0, one, one, nil),
		lay(api.EncPlain, 1, 1, one, one, one),
		lay(api.EncPlain, 1, 0, one, two, one),
	} {
		wantUnread(t, "right sum", b, api.ErrBlockForm)
		b[len(b)-1] ^= 1
		wantUnread(t, "wrong sum", b, api.ErrBlockSum)
	}
}

// What the head says of the values must be so, though the sum is right.
func TestReadWrongHead(t *testing.T) {
	null, no, one, two, three := value.Null(), value.Bool(false), value.Int(1), value.Int(2), value.Int(3)
	for i, k := range []struct {
		nulls           int
		least, greatest api.Value
		l               []api.Value
		right           bool
	}{
		{0, one, three, list(two, three, one), true},
		{1, one, three, list(two, three, one), false},
		{3, one, three, list(two, three, one), false},
		{0, two, three, list(two, three, one), false},
		{0, one, two, list(two, three, one), false},
		{0, three, one, list(two, three, one), false},
		{0, no, three, list(two, three, one), false},
		{0, one, value.Text(""), list(two, three, one), false},
		{0, null, null, list(two, three, one), false},
		{1, null, three, list(three, null), true},
		{0, null, three, list(three, null), false},
		{2, null, three, list(three, null), false},
		{1, three, three, list(three, null), false}, // the null is the least one
		{1, null, null, list(three, null), false},
		{2, null, null, list(null, null), true},
		{1, null, null, list(null, null), false},
		{0, null, null, list(null, null), false},
		{0, one, one, list(one), true},
		{0, one, two, list(one), false},
		{0, null, one, list(one), false},
	} {
		for _, kind := range kinds {
			encoded, e := encode.Encode(kind, k.l)
			if e != api.OK {
				continue
			}
			b := lay(kind, len(k.l), k.nulls, bytesOf(k.least), bytesOf(k.greatest), encoded)
			wantHead(t, b, block.Info{Kind: kind, Many: len(k.l), Nulls: k.nulls, Min: k.least, Max: k.greatest, Bytes: len(b)})
			if k.right {
				wantValues(t, b, k.l, len(b))
			} else {
				wantUnread(t, "case "+string(rune('a'+i)), b, api.ErrBlockForm)
			}
		}
	}
}

// An encoding that Encode would not write so.
func TestReadWrongEncoding(t *testing.T) {
	const five = "0000000000000005"
	for _, k := range []struct {
		why     string
		kind    int
		many    int
		encoded string
	}{
		{"no byte", api.EncPlain, 2, ""},
		{"a value too few", api.EncPlain, 2, "02" + five},
		{"a value too many", api.EncPlain, 1, "02" + five + "02" + five},
		{"a byte behind", api.EncPlain, 1, "02" + five + "00"},
		{"two runs of one value", api.EncRuns, 2, "0102" + five + "0102" + five},
		{"a run of none", api.EncRuns, 1, "0002" + five + "0102" + five},
		{"more than is said", api.EncRuns, 2, "0302" + five},
		{"more bytes than need be", api.EncDelta, 2, five + "8000"},
		{"a place that has no value", api.EncDict, 1, "0002" + five},
		{"a byte behind", api.EncDict, 2, "0102" + five + "00"},
		{"more bits than need be", api.EncBits, 2, five + "0100"},
		{"of another kind", api.EncPlain, 2, "0202" + five},
		{"of another kind", api.EncRuns, 2, "02" + five + "02" + five},
		{"of another kind", api.EncBits, 2, five + "80"},
		{"of another kind", api.EncDelta, 1, five + "00"},
	} {
		head := bytesOf(value.Int(5))
		wantUnread(t, k.why, lay(k.kind, k.many, 0, head, head, unhex(t, k.encoded)), api.ErrBlockForm)
	}
	for _, kind := range kinds { // and these are right
		b := model(t, kind, ints(5, 5))
		wantValues(t, b, ints(5, 5), len(b))
	}
}

// A block is read for itself: what stands behind it is not asked.
func TestReadOneOfMany(t *testing.T) {
	first, second := ints(3, 1, 2), texts("a", "b")
	a, b := write(t, -1, first), write(t, -1, second)
	both := slices.Concat(a, b)
	wantValues(t, both, first, len(a))
	wantValues(t, both[len(a):], second, len(b))
	wantHeadless(t, "in the midst of a block", both[1:])
}
