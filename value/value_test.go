package value_test

import (
	"math"
	"strings"
	"testing"

	"hayloft/api"
	"hayloft/value"
)

// kinds that are none of the four
var strange = []int{-1, 4, 9, math.MinInt, math.MaxInt, 1 << 32, 1<<32 + 2}

// long is a text of n bytes.
func long(n int) string { return strings.Repeat("a", n) }

// values are right ones, each below those behind it.
func values() []api.Value {
	return []api.Value{
		{},
		{Kind: 1},
		{Kind: 1, Bool: true},
		{Kind: 2, Int: math.MinInt64},
		{Kind: 2, Int: math.MinInt64 + 1},
		{Kind: 2, Int: -1 << 32},
		{Kind: 2, Int: -1},
		{Kind: 2},
		{Kind: 2, Int: 1},
		{Kind: 2, Int: 9},
		{Kind: 2, Int: 10},
		{Kind: 2, Int: 1 << 32},
		{Kind: 2, Int: math.MaxInt64 - 1},
		{Kind: 2, Int: math.MaxInt64},
		{Kind: 3},
		{Kind: 3, Text: "\x00"},
		{Kind: 3, Text: "\x00\x00"},
		{Kind: 3, Text: "\x1f"},
		{Kind: 3, Text: " "},
		{Kind: 3, Text: `"`},
		{Kind: 3, Text: "10"},
		{Kind: 3, Text: "9"},
		{Kind: 3, Text: "A"},
		{Kind: 3, Text: `\`},
		{Kind: 3, Text: `\x0a`},
		{Kind: 3, Text: "a"},
		{Kind: 3, Text: "a\x00"},
		{Kind: 3, Text: long(api.MaxText - 1)},
		{Kind: 3, Text: long(api.MaxText)},
		{Kind: 3, Text: "ab"},
		{Kind: 3, Text: "null"},
		{Kind: 3, Text: "~"},
		{Kind: 3, Text: "\x7f"},
		{Kind: 3, Text: "\x80"},
		{Kind: 3, Text: "é"},
		{Kind: 3, Text: "\xff"},
	}
}

// wrongs are values that are not right.
func wrongs() []api.Value {
	l := []api.Value{
		{Kind: 0, Bool: true},
		{Kind: 0, Int: 1},
		{Kind: 0, Int: math.MinInt64},
		{Kind: 0, Text: "a"},
		{Kind: 0, Text: "\x00"},
		{Kind: 1, Int: 1},
		{Kind: 1, Bool: true, Int: -1},
		{Kind: 1, Text: "a"},
		{Kind: 1, Bool: true, Text: "true"},
		{Kind: 2, Bool: true},
		{Kind: 2, Int: 5, Bool: true},
		{Kind: 2, Text: "a"},
		{Kind: 2, Int: 5, Text: "5"},
		{Kind: 3, Bool: true},
		{Kind: 3, Text: "a", Bool: true},
		{Kind: 3, Int: 1},
		{Kind: 3, Text: "1", Int: 1},
		{Kind: 3, Text: long(api.MaxText + 1)},
		{Kind: 3, Text: long(1000)},
		{Kind: 3, Text: strings.Repeat("é", api.MaxText/2+1)}, // more bytes, fewer letters
	}
	for _, k := range strange {
		l = append(l, api.Value{Kind: k}, api.Value{Kind: k, Bool: true}, api.Value{Kind: k, Int: 1}, api.Value{Kind: k, Text: "a"})
	}
	return l
}

func TestMakers(t *testing.T) {
	if v := value.Null(); v != (api.Value{}) {
		t.Errorf("P2.1: Null: %+v", v)
	}
	for _, b := range []bool{false, true} {
		if v := value.Bool(b); v != (api.Value{Kind: 1, Bool: b}) {
			t.Errorf("P2.1: Bool(%v): %+v", b, v)
		}
	}
	for _, n := range []int64{0, 1, -3, math.MinInt64, math.MaxInt64} {
		if v := value.Int(n); v != (api.Value{Kind: 2, Int: n}) {
			t.Errorf("P2.1: Int(%d): %+v", n, v)
		}
	}
	for _, s := range []string{"", "a", "\x00\xff", long(api.MaxText), long(api.MaxText + 1), long(5000)} {
		if v := value.Text(s); v != (api.Value{Kind: 3, Text: s}) {
			t.Errorf("P2.1: Text(%q): %+v", s, v)
		}
	}
}

func TestRight(t *testing.T) {
	for _, v := range values() {
		if !value.Right(v) {
			t.Errorf("P2.1: %+v is not right", v)
		}
	}
	for _, v := range wrongs() {
		if value.Right(v) {
			t.Errorf("P2.1: %+v is right", v)
		}
	}
}

func TestFits(t *testing.T) {
	for kind := 1; kind <= 3; kind++ {
		for _, null := range []bool{false, true} {
			c := api.Column{Name: "a", Kind: kind, Null: null}
			for _, v := range values() {
				want := v.Kind == kind || v.Kind == 0 && null
				if value.Fits(c, v) != want {
					t.Errorf("P2.2: %+v in %+v: %v", v, c, !want)
				}
			}
			for _, v := range wrongs() {
				if value.Fits(c, v) {
					t.Errorf("P2.2: %+v fits %+v", v, c)
				}
			}
		}
	}
}

// A column that no table has is asked for its Kind and Null all the same.
func TestFitsStrangeColumns(t *testing.T) {
	if !value.Fits(api.Column{}, value.Null()) || value.Fits(api.Column{}, value.Int(0)) || !value.Fits(api.Column{Null: true}, value.Null()) {
		t.Error("P2.2: a column of nulls")
	}
	for _, k := range strange {
		c := api.Column{Name: "a", Kind: k}
		n := api.Column{Name: "a", Kind: k, Null: true}
		if value.Fits(c, api.Value{Kind: k}) || value.Fits(n, api.Value{Kind: k}) || value.Fits(c, value.Null()) || !value.Fits(n, value.Null()) {
			t.Errorf("P2.2: a column of kind %d", k)
		}
	}
	for _, name := range []string{"", long(api.MaxText + 1)} {
		if !value.Fits(api.Column{Name: name, Kind: 2}, value.Int(1)) {
			t.Error("P2.2: a column's name is not asked")
		}
	}
}
