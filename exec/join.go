package exec

import (
	"iter"
	"slices"

	"hayloft/api"
	"hayloft/value"
)

// Join gives each row of left with each row of right behind it where the values at leftOn and rightOn are alike, and not null.
func Join(left, right iter.Seq[[]api.Value], leftOn, rightOn int) iter.Seq[[]api.Value] {
	return func(yield func([]api.Value) bool) {
		sought := ordered(right, rightOn)
	joined:
		for row := range left {
			row = slices.Clone(row) // whoever is given a joined row may write over left's own ahead of the next one
			for _, other := range alike(sought, rightOn, at(row, leftOn)) {
				if !yield(slices.Concat(row, other)) {
					break joined
				}
			}
		}
	}
}

// ordered gathers the rows that can be joined, by their values at a place, those that are alike in the order in which they came: so each row of the other side finds its own together. Where there is no null, none is found.
func ordered(rows iter.Seq[[]api.Value], on int) [][]api.Value {
	var l [][]api.Value
	for row := range rows {
		if at(row, on).Kind != api.KindNull {
			l = append(l, slices.Clone(row))
		}
	}
	slices.SortStableFunc(l, func(a, b []api.Value) int {
		return value.Compare(at(a, on), at(b, on))
	})
	return l
}

// alike are those of the ordered rows whose value at a place is like v.
func alike(l [][]api.Value, on int, v api.Value) [][]api.Value {
	first, _ := slices.BinarySearchFunc(l, v, func(row []api.Value, v api.Value) int {
		return value.Compare(at(row, on), v)
	})
	l = l[first:]
	for i, row := range l {
		if value.Compare(at(row, on), v) != 0 {
			return l[:i]
		}
	}
	return l
}

// Rejoin puts the columns of two projections' versions together, by their rows' names.
func Rejoin(a, b []api.Version) []api.Version {
	first := make(map[api.RowId]int, len(b))
	for i, v := range b {
		if _, ok := first[v.Id]; !ok {
			first[v.Id] = i
		}
	}
	var out []api.Version
	for _, v := range a {
		if i, ok := first[v.Id]; ok {
			out = append(out, api.Version{Id: v.Id, Row: slices.Concat(v.Row, b[i].Row), Deleted: v.Deleted})
		}
	}
	return out
}
