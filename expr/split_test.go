package expr_test

import (
	"math"
	"slices"
	"testing"

	"hayloft/api"
	"hayloft/expr"
	"hayloft/value"
)

// at are terms of these columns; each tells its place in the list.
func at(columns ...int) []api.Term {
	var l []api.Term
	for i, c := range columns {
		l = append(l, api.Term{Column: c, Op: i, Value: value.Int(int64(i))})
	}
	return l
}

// less are some of a list's terms, each Column less many.
func less(l []api.Term, many int, places ...int) []api.Term {
	var out []api.Term
	for _, i := range places {
		term := l[i]
		term.Column -= many
		out = append(out, term)
	}
	return out
}

func TestSplit(t *testing.T) {
	l := at(2, 0, 3, 1, 2, 0)
	wantSplit(t, l, 2, less(l, 0, 1, 3, 5), less(l, 2, 0, 2, 4))
	wantSplit(t, l, 1, less(l, 0, 1, 5), less(l, 1, 0, 2, 3, 4))
	wantSplit(t, l, 3, less(l, 0, 0, 1, 3, 4, 5), less(l, 3, 2))
	wantSplit(t, l, 0, nil, l)
	wantSplit(t, l, 4, l, nil)
	wantSplit(t, l, math.MaxInt, l, nil)
	wantSplit(t, l, -5, nil, less(l, -5, 0, 1, 2, 3, 4, 5))
	wantSplit(t, nil, 2, nil, nil)
	wantSplit(t, []api.Term{}, -2, nil, nil)
	wantSplit(t, at(0, 1, 2)[:1], 1, at(0), nil) // what is spare is no term
}

// Whatever Ops, values and how many terms: they are kept as they are.
func TestSplitKeeps(t *testing.T) {
	var l []api.Term
	for i, v := range everyValue() {
		l = append(l, api.Term{Column: i, Op: ends()[i%len(ends())], Value: v})
	}
	for many := range len(l) + 1 {
		want := slices.Clone(l)
		for i := many; i < len(l); i++ {
			want[i].Column = i - many
		}
		wantSplit(t, l, many, want[:many], want[many:])
	}
}

// A Column below 0 is one like others: below many, or less many.
func TestSplitBelowNought(t *testing.T) {
	l := at(-1, 0, -3, math.MinInt, -2)
	wantSplit(t, l, 0, less(l, 0, 0, 2, 3, 4), less(l, 0, 1))
	wantSplit(t, l, 2, l, nil)
	wantSplit(t, l, -2, less(l, 0, 2, 3), less(l, -2, 0, 1, 4))
	wantSplit(t, l, math.MinInt+1, less(l, 0, 3), less(l, math.MinInt+1, 0, 1, 2, 4))
}

// R1: whatever numbers.
func TestSplitEnds(t *testing.T) {
	for _, many := range append(ends(), 0, 1) {
		for _, c := range append(ends(), 0, 1) {
			l := at(c)
			if c < many {
				wantSplit(t, l, many, l, nil)
			} else {
				wantSplit(t, l, many, nil, less(l, many, 0))
			}
		}
	}
}

// P14.4, with rows and terms of all lengths, and each Column up to behind both rows.
func TestSplitFollows(t *testing.T) {
	five, six, null := value.Int(5), value.Int(6), value.Null()
	rows := [][]api.Value{nil, {five}, {null}, {six, five}, {five, null}, {null, null, six}}
	yes, no := 0, 0
	for _, left := range rows {
		for _, right := range rows {
			whole := slices.Concat(left, right)
			for x := range 8 {
				for y := range 8 {
					for _, op := range []int{api.TermEqual, api.TermUnlike, api.TermNull, api.TermFull, 8} {
						l := []api.Term{{Column: x, Op: op, Value: five}, {Column: y, Op: api.TermAtLeast, Value: five}}
						one, two := expr.Split(l, len(left))
						if is := expr.All(l, whole); is != (expr.All(one, left) && expr.All(two, right)) {
							t.Fatalf("P14.4: %+v, %+v, %+v: %v", l, left, right, is)
						} else if is {
							yes++
						} else {
							no++
						}
					}
				}
			}
		}
	}
	if yes < 100 || no < 100 {
		t.Error("too few:", yes, no)
	}
}
