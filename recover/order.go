package recover

import (
	"cmp"
	"slices"

	"hayloft/api"
)

// inOrder is things by rising keys, the first one of each key alone.
func inOrder[T, K any](things []T, key func(T) K, compare func(a, b K) int) []T {
	byKey := func(a, b T) int { return compare(key(a), key(b)) }
	l := slices.Clone(things)
	// Stable, for of several of one key that which came first is to stay ahead: it is the one that is kept.
	slices.SortStableFunc(l, byKey)
	return slices.CompactFunc(l, func(a, b T) bool { return byKey(a, b) == 0 })
}

// byNames is versions by rising names, the first one of each name alone. Their rows are still those that were handed in.
func byNames(l []api.Version) []api.Version {
	return inOrder(l, nameOf, compareNames)
}

func nameOf(v api.Version) api.RowId { return v.Id }

func compareNames(a, b api.RowId) int {
	return cmp.Or(cmp.Compare(a.Epoch, b.Epoch), cmp.Compare(a.Number, b.Number))
}

// as is a version as it is told at an epoch, with a row of its own.
func as(v api.Version, epoch uint64) api.Version {
	v.Row = slices.Clone(v.Row)
	if v.Deleted > epoch {
		v.Deleted = 0
	}
	return v
}
