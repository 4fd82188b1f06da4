package plan

import (
	"cmp"
	"slices"

	"hayloft/api"
	"hayloft/catalog"
	"hayloft/exec"
	"hayloft/value"
)

// Needs are the segments that a plan asks.
func Needs(c api.Catalog, p Plan) []api.Segment {
	l := segments(c, p.First)
	if p.Second >= 0 {
		l = append(l, segments(c, p.Second)...)
	}
	return l
}

// segments are those of a projection, in order.
func segments(c api.Catalog, proj int) []api.Segment {
	var l []api.Segment
	for at := range catalog.Segments(c) {
		if at.Proj == proj {
			l = append(l, at)
		}
	}
	return l
}

// Full puts a table's rows together, out of the versions of all segments that a plan needs (in the order of Needs), as they were at an epoch.
func Full(c api.Catalog, p Plan, l [][]api.Version, epoch uint64) []api.Version {
	if !within(p.First, len(c.Projs)) || p.Second >= len(c.Projs) {
		return nil
	}
	first := c.Projs[p.First]
	if !within(first.Table, len(c.Tables)) {
		return nil
	}
	columns := first.Columns
	mine, rest := cut(c, p.First, l)
	versions := visible(mine, epoch, len(columns))
	if p.Second >= 0 {
		others := c.Projs[p.Second].Columns
		theirs, _ := cut(c, p.Second, rest)
		versions = exec.Rejoin(versions, visible(theirs, epoch, len(others)))
		columns = slices.Concat(columns, others) // First's stand ahead, so that a column which both have is taken from it
	}
	return told(versions, columns, len(c.Tables[first.Table].Columns))
}

// cut is the first of some lists, as many as a projection has segments, and the rest. There may be too few: those that are missing are empty.
func cut(c api.Catalog, proj int, l [][]api.Version) (mine, rest [][]api.Version) {
	many := min(len(segments(c, proj)), len(l))
	return l[:many], l[many:]
}

// visible is the versions that are visible at an epoch, their rows made so many values long: then what is put behind one stands at the same places in each.
func visible(l [][]api.Version, epoch uint64, many int) []api.Version {
	var out []api.Version
	for _, versions := range l {
		for _, v := range versions {
			if v.Id.Epoch <= epoch && (v.Deleted == 0 || v.Deleted > epoch) {
				out = append(out, api.Version{Id: v.Id, Row: fit(v.Row, many)})
			}
		}
	}
	return out
}

// fit is a row of so many values: the first ones of another row, and nulls, where that is too short.
func fit(row []api.Value, many int) []api.Value {
	out := slices.Repeat([]api.Value{value.Null()}, many)
	copy(out, row)
	return out
}

// told is versions by rising names, their rows, of these columns, in the order of a table that has so many.
func told(versions []api.Version, columns []int, many int) []api.Version {
	places := make([]int, many)
	for column := range places {
		places[column] = slices.Index(columns, column)
	}
	out := make([]api.Version, 0, len(versions))
	for _, v := range versions {
		out = append(out, api.Version{Id: v.Id, Row: pick(v.Row, places)})
	}
	slices.SortStableFunc(out, func(a, b api.Version) int {
		return cmp.Or(cmp.Compare(a.Id.Epoch, b.Id.Epoch), cmp.Compare(a.Id.Number, b.Id.Number))
	})
	return out
}

// pick is the values at some places of a row; a place below 0 is that of a column which no projection of the plan has.
func pick(row []api.Value, places []int) []api.Value {
	out := make([]api.Value, 0, len(places))
	for _, place := range places {
		if place < 0 {
			out = append(out, value.Null())
			continue
		}
		out = append(out, row[place])
	}
	return out
}
