package exec

import (
	"iter"
	"slices"

	"hayloft/api"
	"hayloft/value"
)

// member is a row, and the values by which it belongs to a group.
type member struct {
	key, row []api.Value
}

// Group gives for each group of rows, rising by the values at the places by, these values and what aggs ask.
func Group(rows iter.Seq[[]api.Value], by []int, aggs []api.Agg) iter.Seq[[]api.Value] {
	by, aggs = slices.Clone(by), slices.Clone(aggs)
	return func(yield func([]api.Value) bool) {
		l := members(rows, by)
		if len(l) == 0 && len(by) == 0 { // all rows are one group, also if there are none
			yield(told(nil, nil, aggs))
			return
		}
		for len(l) > 0 {
			many := together(l)
			if !yield(told(l[0].key, l[:many], aggs)) {
				return
			}
			l = l[many:]
		}
	}
}

// members are the rows by their groups, those of one group in the order in which they came.
func members(rows iter.Seq[[]api.Value], by []int) []member {
	var l []member
	for row := range rows {
		l = append(l, member{pick(row, by), slices.Clone(row)})
	}
	slices.SortStableFunc(l, func(a, b member) int {
		return value.Rows(a.key, b.key)
	})
	return l
}

// together tells how many of the first members are one group.
func together(l []member) int {
	many := 1
	for many < len(l) && value.Rows(l[0].key, l[many].key) == 0 {
		many++
	}
	return many
}

func told(key []api.Value, l []member, aggs []api.Agg) []api.Value {
	out := slices.Clone(key)
	for _, agg := range aggs {
		out = append(out, tell(l, agg))
	}
	return out
}

func tell(l []member, agg api.Agg) api.Value {
	switch agg.Op {
	case api.AggCount:
		return value.Int(int64(len(l)))
	case api.AggSum:
		return sum(l, agg.Column)
	case api.AggMin:
		return utmost(l, agg.Column, -1)
	case api.AggMax:
		return utmost(l, agg.Column, 1)
	}
	return value.Null()
}

func sum(l []member, column int) api.Value {
	out := value.Null()
	for _, m := range l {
		if v := at(m.row, column); v.Kind == api.KindInt {
			out = value.Int(out.Int + v.Int)
		}
	}
	return out
}

// utmost is the first of the values that none other is on that side of: below (-1), or above (1).
func utmost(l []member, column, side int) api.Value {
	out := value.Null()
	for _, m := range l {
		v := at(m.row, column)
		if v.Kind == api.KindNull {
			continue
		}
		if out.Kind == api.KindNull || value.Compare(v, out) == side {
			out = v
		}
	}
	return out
}
