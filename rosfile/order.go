package rosfile

import (
	"cmp"
	"slices"

	"hayloft/api"
	"hayloft/value"
)

// Sorted puts versions into the order of a container.
func Sorted(sort []int, l []api.Version) []api.Version {
	sorted := make([]api.Version, len(l))
	for i, v := range l {
		sorted[i] = copyOf(v)
	}
	slices.SortStableFunc(sorted, orderBy(sort))
	return sorted
}

// copyOf has a row of its own: two versions that are handed in may share one.
func copyOf(v api.Version) api.Version {
	v.Row = slices.Clone(v.Row)
	return v
}

// orderBy is the order of a container that is sorted by these columns.
func orderBy(sort []int) func(a, b api.Version) int {
	return func(a, b api.Version) int {
		for _, place := range sort {
			if c := value.Compare(at(a.Row, place), at(b.Row, place)); c != 0 {
				return c
			}
		}
		return names(a.Id, b.Id)
	}
}

func names(a, b api.RowId) int {
	return cmp.Or(cmp.Compare(a.Epoch, b.Epoch), cmp.Compare(a.Number, b.Number))
}

// keyOf are the values by which a row is sorted.
func keyOf(sort []int, row []api.Value) []api.Value {
	key := make([]api.Value, len(sort))
	for i, place := range sort {
		key[i] = at(row, place)
	}
	return key
}

// at is a row's value at a place, null where it has none.
func at(row []api.Value, place int) api.Value {
	if place < 0 || place >= len(row) {
		return value.Null()
	}
	return row[place]
}
