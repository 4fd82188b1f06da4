package rosfile

import (
	"math"
	"slices"

	"hayloft/api"
	"hayloft/value"
)

// mostEpoch is the last one that an int can tell.
const mostEpoch = math.MaxInt64

// mayBe tells whether a container may have so many columns, and be sorted by these.
func mayBe(columns int, sort []int) bool {
	if columns < 1 || columns > api.MaxColumns {
		return false
	}
	for i, place := range sort {
		if place < 0 || place >= columns || slices.Contains(sort[:i], place) {
			return false
		}
	}
	return true
}

// mayHave tells whether a container of so many columns may have these versions.
func mayHave(columns int, l []api.Version) bool {
	if len(l) > api.MaxRows {
		return false
	}
	for _, v := range l {
		if len(v.Row) != columns || !mayLive(v) || !allRight(v.Row) {
			return false
		}
	}
	return len(placesOf(l)) == len(l) // else two have one name
}

// mayLive tells whether a version may have come and gone at its epochs.
func mayLive(v api.Version) bool {
	came, gone := v.Id.Epoch, v.Deleted
	if came == 0 || came > mostEpoch {
		return false
	}
	return gone == 0 || gone > came && gone <= mostEpoch
}

func allRight(row []api.Value) bool {
	for _, v := range row {
		if !value.Right(v) {
			return false
		}
	}
	return true
}

// placesOf tells the place of each name.
func placesOf(l []api.Version) map[api.RowId]int {
	places := make(map[api.RowId]int, len(l))
	for i, v := range l {
		places[v.Id] = i
	}
	return places
}
