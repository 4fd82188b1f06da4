package expr_test

import (
	"math"
	"slices"
	"strings"
	"testing"

	"hayloft/api"
	"hayloft/expr"
	"hayloft/value"
)

// ends are numbers that are no place and no Op.
func ends() []int {
	return []int{-1, -2, -8, 8, 9, 100, 1 << 32, math.MinInt, math.MinInt + 1, math.MaxInt, math.MaxInt - 1}
}

// orders are the Ops that ask for an order.
func orders() []int {
	return []int{api.TermEqual, api.TermUnlike, api.TermBelow, api.TermAtMost, api.TermAbove, api.TermAtLeast}
}

// long is a text of n bytes.
func long(n int) api.Value { return value.Text(strings.Repeat("a", n)) }

// rising are right values that are not null, each below those behind it.
func rising() []api.Value {
	return []api.Value{
		value.Bool(false), value.Bool(true),
		value.Int(math.MinInt64), value.Int(-1), value.Int(0), value.Int(1), value.Int(math.MaxInt64),
		value.Text(""), value.Text("\x00"), value.Text("10"), value.Text("9"), value.Text("a"), long(2), long(api.MaxText), value.Text("\xff"),
	}
}

// nulls are of KindNull, right and not right.
func nulls() []api.Value {
	return []api.Value{value.Null(), {Bool: true}, {Int: 5}, {Text: "a"}}
}

// wrongs are neither null nor right.
func wrongs() []api.Value {
	return []api.Value{
		{Kind: 1, Int: 1}, {Kind: 1, Text: "a"},
		{Kind: 2, Bool: true}, {Kind: 2, Int: 5, Text: "a"},
		{Kind: 3, Text: "a", Int: 1}, {Kind: 3, Bool: true},
		long(api.MaxText + 1), long(1000),
		{Kind: 4}, {Kind: 9, Int: 1}, {Kind: -1}, {Kind: math.MinInt}, {Kind: math.MaxInt},
	}
}

func everyValue() []api.Value { return slices.Concat(rising(), nulls(), wrongs()) }

// kinds are a column of each kind, and then one of each that may be null.
func kinds() []api.Column {
	return []api.Column{
		{Name: "a", Kind: api.KindBool}, {Name: "b", Kind: api.KindInt}, {Name: "c", Kind: api.KindText},
		{Name: "d", Kind: api.KindBool, Null: true}, {Name: "e", Kind: api.KindInt, Null: true}, {Name: "f", Kind: api.KindText, Null: true},
	}
}

// holds is Term, as the chapter's words say it.
func holds(t api.Term, row []api.Value) bool {
	if t.Column < 0 || t.Column > len(row)-1 {
		return false
	}
	v := row[t.Column]
	if t.Op == api.TermNull || t.Op == api.TermFull {
		return (v.Kind == api.KindNull) == (t.Op == api.TermNull)
	}
	if v.Kind == api.KindNull || t.Value.Kind == api.KindNull {
		return false
	}
	below, above := value.Compare(v, t.Value) < 0, value.Compare(v, t.Value) > 0
	switch t.Op {
	case api.TermEqual:
		return !below && !above
	case api.TermUnlike:
		return below || above
	case api.TermBelow:
		return below
	case api.TermAtMost:
		return !above
	case api.TermAbove:
		return above
	case api.TermAtLeast:
		return !below
	}
	return false
}

func wantCheck(t *testing.T, what string, columns []api.Column, l []api.Term, want api.Errno) {
	t.Helper()
	if e := expr.Check(columns, l); e != want {
		t.Errorf("P14.1: %s: %d, want %d: %+v", what, e, want, l)
	}
}

func wantTerm(t *testing.T, term api.Term, row []api.Value, want bool) {
	t.Helper()
	if is := expr.Term(term, row); is != want {
		t.Errorf("P14.2: Term(%+v, %+v): %v", term, row, is)
	}
}

func wantAll(t *testing.T, l []api.Term, row []api.Value, want bool) {
	t.Helper()
	if is := expr.All(l, row); is != want {
		t.Errorf("P14.2: All(%+v, %+v): %v", l, row, is)
	}
}

func wantSplit(t *testing.T, l []api.Term, many int, left, right []api.Term) {
	t.Helper()
	one, two := expr.Split(l, many)
	if !slices.Equal(one, left) || !slices.Equal(two, right) {
		t.Errorf("P14.3: Split(%+v, %d): %+v; %+v", l, many, one, two)
	}
}
