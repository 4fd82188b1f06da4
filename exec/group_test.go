package exec_test

import (
	"math"
	"slices"
	"testing"

	"hayloft/api"
	"hayloft/exec"
	"hayloft/value"
)

// all are the four things that may be told, of a column.
func all(column int) []api.Agg {
	return []api.Agg{{Op: api.AggCount, Column: column}, {Op: api.AggSum, Column: column}, {Op: api.AggMin, Column: column}, {Op: api.AggMax, Column: column}}
}

func wantGroup(t *testing.T, what string, rows [][]api.Value, by []int, aggs []api.Agg, want ...[]api.Value) {
	t.Helper()
	wantRows(t, "P15.3: Group: "+what, exec.Group(of(rows...).all, by, aggs), want)
}

func TestGroup(t *testing.T) {
	rows := list(row("b", 5, true), row("a", 7, false), row("b", nil, true), row("a", -2, true), row("b", 6, false), row(nil, 1), row(), row("c"))
	wantGroup(t, "by one", rows, []int{0}, all(1), row(nil, 2, 1, 1, 1), row("a", 2, 5, -2, 7), row("b", 3, 11, 5, 6), row("c", 1, nil, nil, nil))
	wantGroup(t, "by two", rows, []int{2, 0}, []api.Agg{{Op: api.AggMax, Column: 1}}, row(nil, nil, 1), row(nil, "c", nil), row(false, "a", 7), row(false, "b", 6), row(true, "a", -2), row(true, "b", 5))
	wantGroup(t, "by one, twice", rows, []int{0, 0}, []api.Agg{{}}, row(nil, nil, 2), row("a", "a", 2), row("b", "b", 3), row("c", "c", 1))
	wantGroup(t, "by none", rows, nil, all(1), row(8, 17, -2, 7))
	wantGroup(t, "nothing told", rows, []int{0}, nil, row(nil), row("a"), row("b"), row("c"))
	wantGroup(t, "by none, nothing told", rows, []int{}, []api.Agg{}, row())
}

func TestGroupOfNone(t *testing.T) {
	wantGroup(t, "none, by none", nil, nil, all(0), row(0, nil, nil, nil))
	wantGroup(t, "none, by an empty list", nil, []int{}, all(0), row(0, nil, nil, nil))
	wantGroup(t, "none, by none, nothing told", nil, nil, nil, row())
	wantGroup(t, "none, by one", nil, []int{0}, all(0))
	wantGroup(t, "none, by one, nothing told", nil, []int{0}, nil)
	wantGroup(t, "empty rows, by one", list(row(), row()), []int{0}, all(0), row(nil, 2, nil, nil, nil))
	wantGroup(t, "empty rows, by none", list(row(), row()), nil, all(0), row(2, nil, nil, nil))
}

// A place that a row has not holds a null; an Op that there is not tells one.
func TestGroupPlaces(t *testing.T) {
	rows := list(row(1, 5), row(2, 6), row(1))
	for _, odd := range append(ends(), 2, 3) {
		wantGroup(t, "by no place", rows, []int{odd}, all(1), row(nil, 3, 11, 5, 6))
		wantGroup(t, "by no place and one", rows, []int{odd, 0}, all(1), row(nil, 1, 2, 5, 5, 5), row(nil, 2, 1, 6, 6, 6))
		wantGroup(t, "no such column", rows, []int{0}, all(odd), row(1, 2, nil, nil, nil), row(2, 1, nil, nil, nil))
		if odd < 0 || odd > 3 {
			wantGroup(t, "no such Op", rows, []int{0}, []api.Agg{{Op: odd, Column: 1}, {}}, row(1, nil, 2), row(2, nil, 1))
		}
	}
	wantGroup(t, "Op 4", rows, nil, []api.Agg{{Op: 4}}, row(nil))
	wantGroup(t, "spare room", list(row(1, 2)[:1]), []int{1}, all(1), row(nil, 1, nil, nil, nil))
}

func TestGroupSum(t *testing.T) {
	sum := func(l ...any) api.Value {
		return slices.Collect(exec.Group(of(ones(l...)...).all, nil, []api.Agg{{Op: api.AggSum}}))[0][0]
	}
	for _, k := range []struct {
		l    []any
		want any
	}{
		{[]any{}, nil}, {[]any{nil, nil}, nil}, {[]any{true, "5", api.Value{Int: 5}, api.Value{Kind: 9, Int: 7}, api.Value{Kind: 1, Int: 7}}, nil},
		{[]any{0}, 0}, {[]any{5, -5}, 0}, {[]any{nil, 0, nil}, 0}, {[]any{true, 5, "7", nil, 6}, 11},
		{[]any{math.MaxInt64, 1}, math.MinInt64}, {[]any{math.MinInt64, -1}, math.MaxInt64},
		{[]any{math.MinInt64, math.MinInt64}, 0}, {[]any{math.MaxInt64, math.MaxInt64, 3}, 1},
		{[]any{api.Value{Kind: 2, Int: 5, Text: "a"}, api.Value{Kind: 2, Bool: true}, 1}, 6},
	} {
		if v := sum(k.l...); v != row(k.want)[0] {
			t.Errorf("P15.3: the sum of %v: %v, want %v", k.l, v, k.want)
		}
	}
}

func TestGroupLeastAndGreatest(t *testing.T) {
	up := rising()
	down := slices.Clone(up)
	slices.Reverse(down)
	for i := range up {
		for k := i; k < len(up); k++ {
			for _, l := range [][]api.Value{up[i : k+1], down[len(up)-1-k : len(up)-i]} {
				var rows [][]api.Value
				for _, v := range l {
					rows = append(rows, row(nil), row(v), row(api.Value{Int: -9}))
				}
				wantGroup(t, "least and greatest", rows, nil, all(0)[2:], row(up[i], up[k]))
			}
		}
	}
	wantGroup(t, "nulls", ones(nil, api.Value{Int: 5}, api.Value{Text: "a"}), nil, all(0)[2:], row(nil, nil))
	wantGroup(t, "below nulls", ones(nil, api.Value{Kind: -1}, nil), nil, all(0)[2:], row(api.Value{Kind: -1}, api.Value{Kind: -1}))
}

// Of several alike the first one stands for them: in the values of a group, the least, the greatest.
func TestGroupFirst(t *testing.T) {
	alike := []api.Value{{Kind: 2, Int: 5, Text: "a"}, {Kind: 2, Int: 5}, {Kind: 2, Int: 5, Bool: true}}
	for i := range alike {
		l := slices.Concat(alike[i:], alike[:i])
		rows := list(row(l[0], l[0]), row(l[1], l[1]), row(l[2], l[2]))
		wantGroup(t, "alike", rows, []int{0}, all(1), row(l[0], 3, 15, l[0], l[0]))
		wantGroup(t, "alike, more below", append(rows, row(4, 4), row(4, 4)), nil, all(1), row(5, 23, 4, l[0]))
		wantGroup(t, "alike, more above", append(rows, row(6, 6), row(6, 6)), nil, all(1), row(5, 27, l[0], 6))
	}
	odd := []api.Value{{Text: "a"}, {}, {Int: 7}}
	wantGroup(t, "nulls", ones(odd[0], odd[1], odd[2]), []int{0}, all(0)[:1], row(odd[0], 3))
	wantGroup(t, "a null of a short row", list(row(), row(odd[0])), []int{0}, all(0)[:1], row(nil, 2))
}

// Groups rise by their values, whatever these are, and are as many as there are values that are not alike.
func TestGroupEveryValue(t *testing.T) {
	values := everyValue()
	for turn := range values {
		l := slices.Concat(values[turn:], values[:turn])
		var rows, want [][]api.Value
		for _, v := range l {
			rows = append(rows, row(v, 1))
			place, found := slices.BinarySearchFunc(want, v, func(r []api.Value, v api.Value) int { return value.Compare(r[0], v) })
			if !found {
				want = slices.Insert(want, place, row(v, 0))
			}
			want[place][1].Int++
		}
		wantGroup(t, "every value", rows, []int{0}, []api.Agg{{Op: api.AggSum, Column: 1}}, want...)
	}
}

// Nothing is asked for ahead of the answer's being gone over; then all of it is.
func TestGroupAsks(t *testing.T) {
	s := of(row(1), row(2), row(1))
	groups := exec.Group(s.all, []int{0}, all(0))
	wantAsked(t, "P15.3: Group", s, 0, 0)
	for range groups {
		break
	}
	wantAsked(t, "P15.3: Group, left", s, 1, 4)
	walk(groups)
	wantAsked(t, "P15.3: Group, once more", s, 2, 8)
}
