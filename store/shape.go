package store

import (
	"slices"

	"hayloft/api"
	"hayloft/rows"
)

// mayBe tells whether a node may have segments of these shapes.
func mayBe(shapes []api.Shape) bool {
	if len(shapes) > api.MaxShapes || len(placesOf(shapes)) < len(shapes) {
		return false
	}
	for _, shape := range shapes {
		if shape.Columns < 1 || shape.Columns > api.MaxColumns || !maySort(shape) {
			return false
		}
	}
	return true
}

// maySort tells whether a shape is sorted by columns that it has, by each once at most.
func maySort(shape api.Shape) bool {
	for i, place := range shape.Sort {
		if place < 0 || place >= shape.Columns || slices.Contains(shape.Sort[:i], place) {
			return false
		}
	}
	return true
}

// placesOf tells at which place the shape of a segment stands.
func placesOf(shapes []api.Shape) map[api.Segment]int {
	places := make(map[api.Segment]int, len(shapes))
	for i, shape := range shapes {
		places[shape.At] = i
	}
	return places
}

func copyShapes(shapes []api.Shape) []api.Shape {
	l := slices.Clone(shapes)
	for i := range l {
		l[i].Sort = slices.Clone(l[i].Sort)
	}
	return l
}

// fits tells whether a row is one of a shape.
func fits(shape api.Shape, row []api.Value) bool {
	if len(row) != shape.Columns {
		return false
	}
	_, e := rows.Encode(row)
	return e == api.OK
}
