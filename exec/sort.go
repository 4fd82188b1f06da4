package exec

import (
	"slices"

	"hayloft/api"
	"hayloft/value"
)

// Sort answers the rows by the first of l, those that are alike by the next one and so on, at last by whole rows.
func Sort(rows [][]api.Value, l []api.Order) [][]api.Value {
	out := make([][]api.Value, 0, len(rows))
	for _, row := range rows {
		out = append(out, slices.Clone(row))
	}
	slices.SortStableFunc(out, func(a, b []api.Value) int {
		return compare(a, b, l)
	})
	return out
}

func compare(a, b []api.Value, l []api.Order) int {
	for _, o := range l {
		c := value.Compare(at(a, o.Column), at(b, o.Column))
		if o.Down {
			c = -c
		}
		if c != 0 {
			return c
		}
	}
	return value.Rows(a, b)
}
