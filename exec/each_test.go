package exec_test

import (
	"math"
	"slices"
	"testing"

	"hayloft/api"
	"hayloft/exec"
	"hayloft/expr"
	"hayloft/value"
)

func TestFilter(t *testing.T) {
	rows := list(row(7, "a"), row(8, "b"), row(nil, "b"), row(9), row(), row(8, "a"), row(8, "b", 5))
	for what, k := range map[string]struct {
		terms []api.Term
		want  [][]api.Value
	}{
		"none":             {nil, rows},
		"an empty list":    {[]api.Term{}, rows},
		"one":              {[]api.Term{{Op: api.TermAbove, Value: value.Int(7)}}, list(row(8, "b"), row(9), row(8, "a"), row(8, "b", 5))},
		"two":              {[]api.Term{{Op: api.TermEqual, Value: value.Int(8)}, {Column: 1, Op: api.TermUnlike, Value: value.Text("a")}}, list(row(8, "b"), row(8, "b", 5))},
		"a null":           {[]api.Term{{Op: api.TermNull}}, list(row(nil, "b"))},
		"of no value":      {[]api.Term{{Op: api.TermEqual}}, nil},
		"a place too far":  {[]api.Term{{Column: 2, Op: api.TermFull}}, list(row(8, "b", 5))},
		"no null out here": {[]api.Term{{Column: 2, Op: api.TermNull}}, nil},
		"below 0":          {[]api.Term{{Column: -1, Op: api.TermNull}}, nil},
		"no such Op":       {[]api.Term{{Op: 8}}, nil},
	} {
		wantRows(t, "P15.1: Filter: "+what, exec.Filter(of(rows...).all, k.terms), k.want)
		wantRows(t, "P15.1: Filter of none: "+what, exec.Filter(of().all, k.terms), nil)
	}
}

// More terms than a query may have, and all values: what expr.All says.
func TestFilterIsAll(t *testing.T) {
	for _, v := range everyValue() {
		for op := -1; op < 9; op++ {
			terms := slices.Repeat([]api.Term{{Op: op, Value: v}}, 12)
			rows := ones()
			var want [][]api.Value
			for _, x := range everyValue() {
				rows = append(rows, row(x))
				if expr.All(terms, row(x)) {
					want = append(want, row(x))
				}
			}
			wantRows(t, "P15.1: Filter", exec.Filter(of(rows...).all, terms), want)
		}
	}
}

func TestProject(t *testing.T) {
	rows := list(row(1, "a", true), row(), row(2), row(nil, "b"), row(3, "c", false, 4))
	for what, k := range map[string]struct {
		places []int
		want   [][]api.Value
	}{
		"none":     {nil, list(row(), row(), row(), row(), row())},
		"one":      {[]int{1}, list(row("a"), row(nil), row(nil), row("b"), row("c"))},
		"turned":   {[]int{2, 0}, list(row(true, 1), row(nil, nil), row(nil, 2), row(nil, nil), row(false, 3))},
		"repeated": {[]int{0, 0, 1, 0}, list(row(1, 1, "a", 1), row(nil, nil, nil, nil), row(2, 2, nil, 2), row(nil, nil, "b", nil), row(3, 3, "c", 3))},
		"the last": {[]int{3, 0}, list(row(nil, 1), row(nil, nil), row(nil, 2), row(nil, nil), row(4, 3))},
	} {
		wantRows(t, "P15.1: Project: "+what, exec.Project(of(rows...).all, k.places), k.want)
		wantRows(t, "P15.1: Project of none: "+what, exec.Project(of().all, k.places), nil)
	}
	for _, place := range ends() {
		wantRows(t, "P15.1: Project: no such place", exec.Project(of(rows[0]).all, []int{place, 0}), list(row(nil, 1)))
	}
	// What is no value is given as it stands; what is spare in a row is no part of it.
	wantRows(t, "P15.1: Project: every value", exec.Project(of(everyValue()).all, []int{16, 20, 1}), list([]api.Value{everyValue()[16], everyValue()[20], everyValue()[1]}))
	spare := slices.Values(list(row(1, 2, 3)[:1]))
	wantRows(t, "P15.1: Project: spare room", exec.Project(spare, []int{0, 1}), list(row(1, nil)))
}

func TestLimit(t *testing.T) {
	rows := list(row(7), row(), row(8, nil), row(7))
	for many := -3; many < 8; many++ {
		want := rows[:min(max(many, 0), len(rows))]
		wantRows(t, "P15.1: Limit", exec.Limit(of(rows...).all, many), want)
		wantRows(t, "P15.1: Limit of none", exec.Limit(of().all, many), nil)
	}
	wantRows(t, "P15.1: Limit", exec.Limit(of(rows...).all, math.MaxInt), rows)
	wantRows(t, "P15.1: Limit", exec.Limit(of(rows...).all, math.MinInt), nil)
}

// Limit asks for no row behind the last one, and for none at all if it gives none.
func TestLimitAsks(t *testing.T) {
	for many, asked := range map[int]int{-1: 0, 0: 0, 1: 1, 2: 2, 3: 3, 4: 4, math.MinInt: 0} {
		s := of(row(1), row(2), row(3))
		walk(exec.Limit(s.all, many))
		wantAsked(t, "P15.1: Limit", s, min(asked, 1), asked)
	}
	wantRows(t, "P15.1: Limit of what never ends", exec.Limit(endless, 3), ones(0, 1, 2))
}

func wantCollect(t *testing.T, what string, s *source, most int, want [][]api.Value, wantErr api.Errno) {
	t.Helper()
	l, e := exec.Collect(s.all, most)
	if e != wantErr || !same(l, want) {
		t.Errorf("P15.5: Collect: %s: %v, %d; want %v, %d", what, l, e, want, wantErr)
	}
}

func TestCollect(t *testing.T) {
	rows := list(row(1), row(), row(nil, 2), row(1))
	for many := range len(rows) + 1 {
		for most := -3; most < 8; most++ {
			s := of(rows[:many]...)
			if most >= many {
				wantCollect(t, "enough", s, most, rows[:many], api.OK)
				wantAsked(t, "P15.5: Collect", s, 1, many+1)
			} else if many > 0 {
				wantCollect(t, "too many", s, most, nil, api.ErrExecMany)
				wantAsked(t, "P15.5: Collect", s, 1, max(most, 0)+1)
			} else {
				wantCollect(t, "no row, below 0", s, most, nil, api.OK)
			}
		}
	}
	wantCollect(t, "no row", of(), math.MinInt, nil, api.OK)
	wantCollect(t, "a row", of(row()), math.MinInt, nil, api.ErrExecMany)
	wantCollect(t, "all", of(rows...), math.MaxInt, rows, api.OK)
}

// Collect ends where its rows do not.
func TestCollectEndless(t *testing.T) {
	for _, most := range []int{-1, 0, 1, 1000} {
		if l, e := exec.Collect(endless, most); e != api.ErrExecMany || len(l) > 0 {
			t.Errorf("P15.5: Collect(%d): %d, %v", most, e, l)
		}
	}
}
