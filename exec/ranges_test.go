package exec_test

import (
	"iter"
	"slices"
	"testing"

	"hayloft/api"
	"hayloft/exec"
	"hayloft/value"
)

// some are rows that every operator below makes several of.
func some() [][]api.Value {
	return list(row(3, "a"), row(1, "b"), row(3, "c"), row(2), row(nil, "d"), row(1, "e"))
}

// ranges are the operators that answer a range, each made of a source.
func ranges(rows iter.Seq[[]api.Value]) map[string]iter.Seq[[]api.Value] {
	return map[string]iter.Seq[[]api.Value]{
		"Filter":       exec.Filter(rows, []api.Term{{Op: api.TermAtLeast, Value: value.Int(2)}}),
		"Filter, none": exec.Filter(rows, nil),
		"Project":      exec.Project(rows, []int{1, 0, 7}),
		"Limit":        exec.Limit(rows, 4),
		"Limit, all":   exec.Limit(rows, 100),
		"Join":         exec.Join(rows, rows, 0, 0),
		"Group":        exec.Group(rows, []int{0}, all(1)),
		"Group, one":   exec.Group(rows, nil, all(0)),
	}
}

// R11: a range may be left behind each of its rows, and gone over again, also while it is gone over: it gives the same each time.
func TestRangesAgain(t *testing.T) {
	for what, rows := range ranges(of(some()...).all) {
		want := slices.Collect(rows)
		for many := range len(want) {
			var l [][]api.Value
			for r := range rows {
				l = append(l, r)
				if len(l) > many {
					break
				}
			}
			if !same(l, want[:many+1]) {
				t.Errorf("R11: %s, left behind %d rows: %v", what, many+1, l)
			}
			wantRows(t, "R11: "+what, rows, want)
		}
		var l [][]api.Value
		for r := range rows {
			l = append(l, r)
			wantRows(t, "R11: inside "+what, rows, want)
		}
		if !same(l, want) {
			t.Errorf("R11: %s, gone over inside: %v, want %v", what, l, want)
		}
	}
}

// Nothing is gone over while an operator is made, nor while one is made of another.
func TestRangesAreLate(t *testing.T) {
	s := of(some()...)
	for _, rows := range ranges(s.all) {
		ranges(rows)
	}
	wantAsked(t, "an operator that is not gone over", s, 0, 0)
}

// Row by row: each row is asked for when the answer's next one is, and none behind the one at which it is left.
func TestRangesAsFar(t *testing.T) {
	for what, asked := range map[string][]int{
		"Filter":       {1, 3, 4},
		"Filter, none": {1, 2, 3, 4, 5, 6},
		"Project":      {1, 2, 3, 4, 5, 6},
		"Limit":        {1, 2, 3, 4},
		"Limit, all":   {1, 2, 3, 4, 5, 6},
	} {
		for many, want := range asked {
			s := of(some()...)
			seen := 0
			for range ranges(s.all)[what] {
				wantAsked(t, "P15.1: "+what, s, 1, asked[seen])
				if seen == many {
					break
				}
				seen++
			}
			wantAsked(t, "P15.1: "+what+", left", s, 1, want)
		}
	}
}

// What is changed in a source in between is seen when it is gone over again: nothing of it is kept.
func TestRangesKeepNothing(t *testing.T) {
	s := of(some()...)
	made := ranges(s.all)
	for _, rows := range made {
		walk(rows)
	}
	s.rows = list(row(5, "z"), row(5, "y"))
	fresh := ranges(of(s.rows...).all)
	for what, rows := range made {
		wantRows(t, "R11: changed: "+what, rows, slices.Collect(fresh[what]))
	}
}

// Operators stand on each other, and ask no more of the lowest than the highest one needs.
func TestRangesOnRanges(t *testing.T) {
	even := exec.Filter(exec.Project(endless, []int{0, 3}), []api.Term{{Op: api.TermAbove, Value: value.Int(9)}})
	joined := exec.Join(exec.Limit(even, 5), exec.Limit(endless, 13), 0, 0)
	wantRows(t, "P15.2: on each other", joined, list(row(10, nil, 10), row(11, nil, 11), row(12, nil, 12)))
	wantRows(t, "P15.3: on each other", exec.Limit(exec.Group(joined, nil, all(0)), 1), list(row(3, 33, 10, 12)))
	l, e := exec.Collect(exec.Filter(endless, nil), 50)
	if e != api.ErrExecMany || len(l) > 0 {
		t.Error("P15.5: on each other:", l, e)
	}
}
