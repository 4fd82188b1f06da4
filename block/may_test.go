package block_test

import (
	"math"
	"testing"

	"hayloft/api"
	"hayloft/block"
	"hayloft/value"
)

// ops are those that hold a value against the term's, in the order of their numbers.
var ops = []int{api.TermEqual, api.TermUnlike, api.TermBelow, api.TermAtMost, api.TermAbove, api.TermAtLeast}

func TestMayOrders(t *testing.T) {
	two, five := value.Int(2), value.Int(5)
	for _, k := range []struct {
		min, max, v api.Value
		want        string // for each of the six: equal, unlike, below, at most, above, at least
	}{
		{two, five, value.Int(1), "nynnyy"},
		{two, five, value.Int(2), "yynyyy"},
		{two, five, value.Int(3), "yyyyyy"},
		{two, five, value.Int(5), "yyyyny"},
		{two, five, value.Int(6), "nyyynn"},
		{two, two, value.Int(1), "nynnyy"},
		{two, two, value.Int(2), "ynnyny"},
		{two, two, value.Int(3), "nyyynn"},
		{two, five, value.Int(math.MinInt64), "nynnyy"},
		{two, five, value.Int(math.MaxInt64), "nyyynn"},
		{two, five, value.Bool(true), "nynnyy"}, // bools are below ints, texts above
		{two, five, value.Text(""), "nyyynn"},
		{value.Null(), five, value.Int(5), "yyyyny"}, // by the words, whatever else there may be
		{value.Null(), five, value.Bool(false), "yyyyyy"},
		{value.Null(), five, value.Int(6), "nyyynn"},
		{value.Null(), value.Null(), value.Int(6), "nyyynn"},
		{value.Bool(false), value.Bool(true), value.Bool(false), "yynyyy"},
		{value.Bool(false), value.Bool(true), value.Bool(true), "yyyyny"},
		{value.Text("a"), value.Text("b"), value.Text("a"), "yynyyy"},
		{value.Text("a"), value.Text("b"), value.Text("ab"), "yyyyyy"},
		{value.Text("a"), value.Text("b"), value.Text(""), "nynnyy"},
		{value.Text("a"), value.Text("b"), value.Text("ba"), "nyyynn"},
		{value.Bool(true), value.Text("b"), value.Int(0), "yyyyyy"},
		{five, two, value.Int(3), "nynnnn"}, // no block's head
		{five, two, value.Int(1), "nynnyy"},
		{two, five, api.Value{Kind: 9}, "nyyynn"}, // not right: by value.Compare all the same
		{two, five, api.Value{Kind: -9}, "nynnyy"},
		{two, five, api.Value{Kind: api.KindInt, Int: 3, Text: "x"}, "yyyyyy"},
	} {
		for _, many := range []struct{ many, nulls int }{{3, 0}, {3, 2}, {1, 0}, {1, -1}, {64, 63}, {math.MaxInt, math.MinInt}} {
			i := block.Info{Many: many.many, Nulls: many.nulls, Min: k.min, Max: k.max}
			for at, op := range ops {
				if got := block.May(i, api.Term{Op: op, Value: k.v}); got != (k.want[at] == 'y') {
					t.Errorf("P7.5: May(%+v, %d %+v): %v", i, op, k.v, got)
				}
			}
		}
	}
}

func TestMayNulls(t *testing.T) {
	for _, k := range []struct {
		many, nulls int
		null, full  bool
	}{
		{3, 0, false, true}, {3, 1, true, true}, {3, 2, true, true}, {3, 3, true, false},
		{1, 0, false, true}, {1, 1, true, false}, {64, 64, true, false}, {64, 63, true, true},
		{0, 0, false, false}, {3, 4, true, false}, {3, -1, false, true}, {-3, -1, false, false},
		{-1, -3, false, true}, {math.MinInt, math.MaxInt, true, false}, {math.MaxInt, math.MinInt, false, true},
	} {
		for _, v := range list(value.Null(), value.Int(9), value.Int(3), api.Value{Kind: 9}) { // is not asked
			i := block.Info{Many: k.many, Nulls: k.nulls, Min: value.Int(1), Max: value.Int(5)}
			if got := block.May(i, api.Term{Op: api.TermNull, Value: v}); got != k.null {
				t.Errorf("P7.5: May(%+v, TermNull): %v", i, got)
			}
			if got := block.May(i, api.Term{Op: api.TermFull, Value: v}); got != k.full {
				t.Errorf("P7.5: May(%+v, TermFull): %v", i, got)
			}
		}
		i := block.Info{Many: k.many, Nulls: k.nulls, Min: value.Int(1), Max: value.Int(5)}
		for _, op := range ops { // each would be true of 3, if not all were null
			if got := block.May(i, api.Term{Op: op, Value: value.Int(3)}); got != k.full {
				t.Errorf("P7.5: May(%+v, %d 3): %v", i, op, got)
			}
		}
	}
}

func TestMayAsksANull(t *testing.T) {
	for _, least := range list(value.Null(), value.Int(1)) {
		for _, v := range []api.Value{{}, {Int: 3}, {Bool: true}, {Text: "a"}} { // null by its kind
			for _, op := range ops {
				i := block.Info{Many: 3, Nulls: 1, Min: least, Max: value.Int(5)}
				if block.May(i, api.Term{Op: op, Value: v}) {
					t.Errorf("P7.5: May(%+v, %d %+v)", i, op, v)
				}
			}
		}
	}
}

func TestMayStrangeTerms(t *testing.T) {
	i := block.Info{Many: 3, Nulls: 1, Min: value.Int(1), Max: value.Int(5)}
	for _, op := range []int{-1, 8, 9, 256, 262, 263, 1 << 32, 1<<32 + 6, math.MinInt, math.MaxInt} {
		for _, v := range list(value.Null(), value.Int(0), value.Int(3), value.Int(9)) {
			if block.May(i, api.Term{Op: op, Value: v}) {
				t.Errorf("P7.5: op %d, %+v", op, v)
			}
		}
	}
}

// Neither the column nor the head's other fields are asked.
func TestMayAsksNoMore(t *testing.T) {
	for _, kind := range []int{-1, 0, 4, 99} {
		for _, column := range []int{-1, 0, 7, math.MaxInt} {
			i := block.Info{Kind: kind, Many: 2, Min: value.Int(1), Max: value.Int(5), Bytes: -kind}
			if !block.May(i, api.Term{Column: column, Op: api.TermEqual, Value: value.Int(5)}) || block.May(i, api.Term{Column: column, Op: api.TermEqual, Value: value.Int(6)}) {
				t.Error("P7.5:", kind, column)
			}
		}
	}
}
