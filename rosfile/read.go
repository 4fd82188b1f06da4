package rosfile

import (
	"math"
	"slices"

	"hayloft/api"
	"hayloft/block"
	"hayloft/codec"
)

// sumSize is how many bytes a container's sum has.
const sumSize = 4

// Read reads one.
func Read(b []byte) (*File, api.Errno) {
	if !isSealed(b) {
		return nil, api.ErrFileForm
	}
	r := codec.Read(b[len(mark()) : len(b)-sumSize])
	f := &File{}
	var many int
	f.columns, f.sort, many = takeHead(r)
	f.versions = takeVersions(r, f.columns, many)
	inOrder := slices.IsSortedFunc(f.versions, orderBy(f.sort))
	if r.End() != api.OK || !inOrder || !mayHave(f.columns, f.versions) {
		return nil, api.ErrFileForm
	}
	f.places = placesOf(f.versions)
	return f, api.OK
}

// isSealed tells whether b begins as a container does, and ends with its sum.
func isSealed(b []byte) bool {
	end := len(b) - sumSize
	if end < len(mark()) || [4]byte(b[:4]) != mark() {
		return false
	}
	return codec.Read(b[end:]).Word() == codec.Sum(b[:end])
}

// takeHead reads how many columns there are, by which of them the versions are sorted, and how many these are.
func takeHead(r *codec.Reader) (int, []int, int) {
	columns := int(r.Byte())
	sort := make([]int, r.Byte())
	for i := range sort {
		sort[i] = int(r.Byte())
	}
	many := r.Word()
	if !mayBe(columns, sort) || many > api.MaxRows {
		r.Fail(api.ErrFileForm)
	}
	return columns, sort, int(many)
}

// takeVersions reads all columns, and makes versions of them.
func takeVersions(r *codec.Reader, columns, many int) []api.Version {
	var all [][]api.Value
	for range columns + behindRow {
		all = append(all, takeColumn(r, many))
	}
	if r.Err() != api.OK {
		return nil
	}
	l := make([]api.Version, many)
	for i := range l {
		l[i] = takeVersion(r, all, i)
	}
	return l
}

// takeColumn reads a column of so many values.
func takeColumn(r *codec.Reader, many int) []api.Value {
	left := r.Raw(int(r.Word()))
	var l []api.Value
	for r.Err() == api.OK && len(l) < many {
		piece, size, e := block.Read(left)
		if e != api.OK || len(piece) != min(many-len(l), api.MaxBlock) {
			r.Fail(api.ErrFileForm)
			return nil
		}
		l = append(l, piece...)
		left = left[size:]
	}
	if len(left) > 0 {
		r.Fail(api.ErrFileForm)
	}
	return l
}

// takeVersion makes a version of what the columns have at a place.
func takeVersion(r *codec.Reader, all [][]api.Value, place int) api.Version {
	cells := make([]api.Value, len(all))
	for n, column := range all {
		cells[n] = column[place]
	}
	end := len(cells) - behindRow
	return api.Version{
		Id: api.RowId{
			Epoch:  takeNumber(r, cells[end], mostEpoch),
			Number: uint32(takeNumber(r, cells[end+1], math.MaxUint32)),
		},
		Row:     cells[:end:end],
		Deleted: takeNumber(r, cells[end+2], mostEpoch),
	}
}

// takeNumber is the number, at most so great, that a cell must have.
func takeNumber(r *codec.Reader, v api.Value, most int64) uint64 {
	if v.Kind != api.KindInt || v.Int < 0 || v.Int > most {
		r.Fail(api.ErrFileForm)
	}
	return uint64(v.Int)
}
