package expr_test

import (
	"slices"
	"testing"

	"hayloft/api"
	"hayloft/value"
)

// A value goes with the columns of its kind alone, whether they may be null or not, whichever order is asked for.
func TestCheckValues(t *testing.T) {
	columns := kinds()
	for _, op := range orders() {
		for place, c := range columns {
			for _, v := range rising() {
				want := api.ErrExprForm
				if v.Kind == c.Kind {
					want = api.OK
				}
				wantCheck(t, "a right value", columns, []api.Term{{Column: place, Op: op, Value: v}}, want)
			}
			for _, v := range slices.Concat(nulls(), wrongs()) {
				wantCheck(t, "a null, or a wrong value", columns, []api.Term{{Column: place, Op: op, Value: v}}, api.ErrExprForm)
			}
		}
	}
}

// What is wrong, and of the column's kind all the same.
func TestCheckWrongOfKind(t *testing.T) {
	for _, v := range wrongs() {
		for _, op := range orders() {
			wantCheck(t, "a wrong value of the kind", []api.Column{{Name: "a", Kind: v.Kind}}, []api.Term{{Op: op, Value: v}}, api.ErrExprForm)
		}
	}
	text := []api.Column{{Name: "a", Kind: api.KindText}}
	wantCheck(t, "the longest text", text, []api.Term{{Value: long(api.MaxText)}}, api.OK)
	wantCheck(t, "a text that is too long", text, []api.Term{{Value: long(api.MaxText + 1)}}, api.ErrExprForm)
}

// No table has a column of KindNull; but a null is right, and of that kind.
func TestCheckColumnOfNulls(t *testing.T) {
	none := []api.Column{{Name: "a", Kind: api.KindNull}}
	wantCheck(t, "a null", none, []api.Term{{Value: value.Null()}}, api.OK)
	wantCheck(t, "a wrong null", none, []api.Term{{Value: api.Value{Int: 5}}}, api.ErrExprForm)
	wantCheck(t, "an int", none, []api.Term{{Value: value.Int(5)}}, api.ErrExprForm)
}

// TermNull and TermFull ask for no value: whatever stands there is right.
func TestCheckValueNotAsked(t *testing.T) {
	columns := append(kinds(), api.Column{Kind: 9}, api.Column{})
	for _, op := range []int{api.TermNull, api.TermFull} {
		for place := range columns {
			for _, v := range everyValue() {
				wantCheck(t, "a value that is not asked", columns, []api.Term{{Column: place, Op: op, Value: v}}, api.OK)
			}
		}
	}
}

func TestCheckColumn(t *testing.T) {
	columns := kinds()[1:2]
	for _, place := range append(ends(), 1) {
		for op := range 8 {
			l := []api.Term{{Column: place, Op: op, Value: value.Int(5)}}
			wantCheck(t, "no such column", columns, l, api.ErrExprForm)
			l[0].Column = 0
			wantCheck(t, "no columns", nil, l, api.ErrExprForm)
			wantCheck(t, "spare columns", columns[:0], l, api.ErrExprForm)
			wantCheck(t, "the column", columns, l, api.OK)
		}
	}
}

func TestCheckOp(t *testing.T) {
	columns := kinds()
	for _, op := range ends() {
		for place := range columns {
			for _, v := range everyValue() {
				wantCheck(t, "no such Op", columns, []api.Term{{Column: place, Op: op, Value: v}}, api.ErrExprForm)
			}
		}
	}
}

func TestCheckMany(t *testing.T) {
	columns := kinds()
	for _, term := range []api.Term{{Op: api.TermNull}, {Column: 4, Op: api.TermAbove, Value: value.Int(5)}} {
		for many := range 30 {
			want := api.OK
			if many > 8 {
				want = api.ErrExprForm
			}
			wantCheck(t, "so many terms", columns, slices.Repeat([]api.Term{term}, many), want)
		}
		spare := slices.Repeat([]api.Term{term}, 30)
		wantCheck(t, "spare terms", columns, spare[:8], api.OK)
	}
	wantCheck(t, "nothing", nil, nil, api.OK)
	wantCheck(t, "no terms", columns, []api.Term{}, api.OK)
	wantCheck(t, "a thousand terms", columns, make([]api.Term, 1000), api.ErrExprForm)
}

// One term that can't be is enough, wherever it stands.
func TestCheckEachTerm(t *testing.T) {
	columns := kinds()
	good := slices.Repeat([]api.Term{{Column: 1, Op: api.TermAtMost, Value: value.Int(5)}}, api.MaxTerms)
	wantCheck(t, "good ones", columns, good, api.OK)
	for _, bad := range []api.Term{
		{Column: 6, Op: api.TermFull},
		{Column: -1, Op: api.TermFull},
		{Column: 1, Op: 8, Value: value.Int(5)},
		{Column: 1, Op: -1, Value: value.Int(5)},
		{Column: 1, Value: value.Null()},
		{Column: 1, Value: value.Text("5")},
		{Column: 1, Value: api.Value{Kind: api.KindInt, Bool: true}},
	} {
		for place := range good {
			l := slices.Clone(good)
			l[place] = bad
			wantCheck(t, "one bad term", columns, l, api.ErrExprForm)
			wantCheck(t, "those ahead of it", columns, l[:place], api.OK)
		}
	}
}

// How columns are named, and that there are more of them than a table has, as in a join, is not asked.
func TestCheckColumnsOfAnyName(t *testing.T) {
	columns := slices.Repeat([]api.Column{{Kind: api.KindInt}}, 2*api.MaxColumns)
	for place := range columns {
		wantCheck(t, "many columns", columns, []api.Term{{Column: place, Value: value.Int(5)}}, api.OK)
	}
	wantCheck(t, "behind many columns", columns, []api.Term{{Column: 16, Value: value.Int(5)}}, api.ErrExprForm)
}
