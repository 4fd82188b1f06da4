package expr_test

import (
	"math/rand/v2"
	"slices"
	"testing"

	"hayloft/api"
	"hayloft/expr"
	"hayloft/value"
)

// draw draws one of a list.
func draw[T any](r *rand.Rand, l ...T) T { return l[r.IntN(len(l))] }

// seldom tells one time in so many that something odd is to be.
func seldom(r *rand.Rand, many int) bool { return r.IntN(many) == 0 }

func someValue(r *rand.Rand) api.Value {
	if seldom(r, 30) {
		return draw(r, everyValue()...)
	}
	return draw(r, value.Null(), value.Bool(false), value.Bool(true), value.Int(1), value.Int(2), value.Int(3), value.Text("a"), value.Text("b"))
}

func someRow(r *rand.Rand) []api.Value {
	row := make([]api.Value, r.IntN(5))
	for i := range row {
		row[i] = someValue(r)
	}
	return row
}

// someTerm is mostly one that may be asked of so many columns, of ints.
func someTerm(r *rand.Rand, many int) api.Term {
	t := api.Term{Column: r.IntN(many + 1), Op: r.IntN(8), Value: value.Int(r.Int64N(5))}
	if t.Column == many && !seldom(r, 10) {
		t.Column = 0
	}
	if seldom(r, 20) {
		t.Op = draw(r, ends()...)
	}
	if seldom(r, 6) {
		t.Value = someValue(r)
	}
	return t
}

func someTerms(r *rand.Rand, many int) []api.Term {
	l := make([]api.Term, draw(r, 0, 1, 1, 2, 2, 3, 4, 8, 9))
	for i := range l {
		l[i] = someTerm(r, many)
	}
	return l
}

// checked is Check, as the chapter's words say it.
func checked(columns []api.Column, l []api.Term) api.Errno {
	bad := len(l) > 8
	for _, t := range l {
		bad = bad || t.Column < 0 || t.Column > len(columns)-1 || t.Op < 0 || t.Op > 7
		if !bad && t.Op < 6 {
			bad = !value.Right(t.Value) || t.Value.Kind != columns[t.Column].Kind
		}
	}
	if bad {
		return api.ErrExprForm
	}
	return api.OK
}

// Whatever columns and terms: Check says what the chapter says.
func TestAnyChecks(t *testing.T) {
	answers := map[api.Errno]int{}
	for seed := range uint64(20000) {
		r := rand.New(rand.NewPCG(14, seed))
		columns := make([]api.Column, r.IntN(5))
		for i := range columns {
			columns[i] = api.Column{Kind: draw(r, 0, 1, 2, 2, 2, 2, 2, 2, 3, 9), Null: r.IntN(2) == 0}
		}
		l := someTerms(r, len(columns))
		want := checked(columns, l)
		wantCheck(t, "any terms", columns, l, want)
		answers[want]++
	}
	if answers[api.OK] < 2000 || answers[api.ErrExprForm] < 2000 {
		t.Error("too few:", answers)
	}
}

// Whatever rows and terms: Term and All say what the chapter says, and so they do of the terms that are split (P14.4).
func TestAnyRows(t *testing.T) {
	yes, no := 0, 0
	for seed := range uint64(20000) {
		r := rand.New(rand.NewPCG(140, seed))
		left, right := someRow(r), someRow(r)
		whole := slices.Concat(left, right)
		l := someTerms(r, len(whole))
		want := true
		for _, term := range l {
			wantTerm(t, term, whole, holds(term, whole))
			want = want && holds(term, whole)
		}
		wantAll(t, l, whole, want)
		one, two := expr.Split(l, len(left))
		if (expr.All(one, left) && expr.All(two, right)) != want {
			t.Fatalf("P14.4: %+v, %+v, %+v: not %v", l, left, right, want)
		}
		if len(l) > 0 && want {
			yes++
		} else if !want {
			no++
		}
	}
	if yes < 1000 || no < 1000 {
		t.Error("too few:", yes, no)
	}
}
