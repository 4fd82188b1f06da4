package wos

import (
	"slices"

	"hayloft/api"
)

// Less is the order of names; Seen tells whether a version is there at an epoch; As is a version as it was told at an epoch.
func Less(a, b api.RowId) bool {
	if a.Epoch != b.Epoch {
		return a.Epoch < b.Epoch
	}
	return a.Number < b.Number
}

func Seen(v api.Version, epoch uint64) bool {
	return v.Id.Epoch <= epoch && (v.Deleted == 0 || v.Deleted > epoch)
}

func As(v api.Version, epoch uint64) api.Version {
	v = copyOf(v)
	if v.Deleted > epoch {
		v.Deleted = 0
	}
	return v
}

// copyOf has a row of its own: whoever holds the other one may write to it.
func copyOf(v api.Version) api.Version {
	v.Row = slices.Clone(v.Row)
	return v
}
