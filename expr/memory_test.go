package expr_test

import (
	"slices"
	"testing"

	"hayloft/api"
	"hayloft/expr"
	"hayloft/value"
)

// spoil writes over a list and its spare room.
func spoil[T any](l []T, with T) {
	l = l[:cap(l)]
	for i := range l {
		l[i] = with
	}
}

// R5: what is handed in is not changed, nor the spare room behind it.
func TestArgumentsStay(t *testing.T) {
	columns, row := kinds(), rising()
	for _, wanted := range [][]api.Term{at(3, 0, 4, 1, 2, 7), at(2, 2, 2), at(-1, 50), at()} {
		spare := append(slices.Clone(wanted), at(9, 9, 9)...)
		kept := slices.Clone(spare)
		l := spare[:len(wanted)]
		for many := -2; many < 12; many++ {
			expr.Split(l, many)
			expr.Check(columns[:4], l)
			expr.All(l, row[:5])
			for _, term := range l {
				expr.Term(term, row[:5])
			}
		}
		if !slices.Equal(spare, kept) || !slices.Equal(columns, kinds()) || !slices.Equal(row, rising()) {
			t.Errorf("R5: changed: %+v, %+v, %+v", spare, columns, row)
		}
	}
}

// R5: what Split answers is new memory, its spare room too: neither the other list, nor another answer, nor what was handed in shows what is written there.
func TestSplitIsNew(t *testing.T) {
	mark := api.Term{Column: -9, Op: -9, Value: value.Text("spoilt")}
	l := at(5, 0, 1, 6, 2, 3, 0, 9, 4, 1, 1)
	kept := slices.Clone(l)
	for many := range 11 {
		one, two := expr.Split(l, many)
		left, right := expr.Split(l, many)
		first, second := slices.Clone(left), slices.Clone(right)
		spoil(one, mark)
		if !slices.Equal(two, second) {
			t.Errorf("R5: Split(%d): the right list shows the left one: %+v", many, two)
		}
		spoil(two, mark)
		if !slices.Equal(left, first) || !slices.Equal(right, second) || !slices.Equal(l, kept) {
			t.Errorf("R5: Split(%d): an answer is seen elsewhere: %+v, %+v, %+v", many, left, right, l)
		}
		again, more := expr.Split(l, many)
		if !slices.Equal(again, first) || !slices.Equal(more, second) {
			t.Errorf("R5: Split(%d): a later answer: %+v, %+v", many, again, more)
		}
		spoil(right, mark)
		if !slices.Equal(left, first) {
			t.Errorf("R5: Split(%d): the left list shows the right one: %+v", many, left)
		}
		spoil(l, mark)
		if !slices.Equal(again, first) || !slices.Equal(more, second) {
			t.Errorf("R5: Split(%d): terms are kept: %+v, %+v", many, again, more)
		}
		copy(l, kept)
	}
}
