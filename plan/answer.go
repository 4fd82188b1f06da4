package plan

import (
	"iter"
	"slices"

	"hayloft/api"
	"hayloft/exec"
)

// Answer answers a query by whole rows of its tables: OK, or ErrExecMany, if a join or the answer has too many rows.
func Answer(q api.Query, left, right [][]api.Value) ([][]api.Value, api.Errno) {
	rows := slices.Values(left)
	if q.Join {
		// All of them are counted here, ahead of the filter: how many a join may give does not hang on Where.
		joined, e := exec.Collect(exec.Join(rows, slices.Values(right), q.LeftOn, q.RightOn), api.MaxJoin)
		if e != api.OK {
			return nil, e
		}
		rows = slices.Values(joined)
	}
	out, e := exec.Collect(shaped(q, exec.Filter(rows, q.Where)), api.MaxAnswer)
	if e != api.OK {
		return nil, e
	}
	out = exec.Sort(out, q.Order)
	if q.Limit > 0 {
		out = slices.Collect(exec.Limit(slices.Values(out), q.Limit))
	}
	return out, api.OK
}

// shaped is the rows that a query's answer has, out of those that it is asked of.
func shaped(q api.Query, rows iter.Seq[[]api.Value]) iter.Seq[[]api.Value] {
	if q.Group {
		return exec.Group(rows, q.By, q.Aggs)
	}
	return exec.Project(rows, q.Columns)
}
