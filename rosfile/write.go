package rosfile

import (
	"iter"

	"hayloft/api"
	"hayloft/block"
	"hayloft/codec"
	"hayloft/value"
)

// theBest asks for the kind of encoding with the fewest bytes.
const theBest = -1

// behindRow is how many columns stand behind a row's: the Epoch and the Number of its name, and Deleted.
const behindRow = 3

// mark is what a container begins with.
func mark() [4]byte { return [4]byte{'H', 'A', 'Y', '1'} }

// Write writes versions (of rows of so many columns), sorted by some of these; kinds: the encoding of each column (-1, or none: the best one).
func Write(columns int, sort []int, kinds []int, l []api.Version) ([]byte, api.Errno) {
	if !mayBe(columns, sort) {
		return nil, api.ErrArg
	}
	if !mayHave(columns, l) {
		return nil, api.ErrFileRows
	}
	w := codec.New()
	putHead(w, columns, sort, len(l))
	sorted := Sorted(sort, l)
	for n := range columns + behindRow {
		kind := theBest
		if n < min(columns, len(kinds)) {
			kind = kinds[n]
		}
		putColumn(w, kind, sorted, n)
	}
	w.Word(codec.Sum(w.Bytes()))
	return w.Bytes(), api.OK
}

func putHead(w *codec.Writer, columns int, sort []int, many int) {
	m := mark()
	w.Raw(m[:])
	w.Byte(byte(columns))
	w.Byte(byte(len(sort)))
	for _, place := range sort {
		w.Byte(byte(place))
	}
	w.Word(uint32(many))
}

// putColumn writes how many bytes a column's blocks have, and these.
func putColumn(w *codec.Writer, kind int, sorted []api.Version, n int) {
	blocks := codec.New()
	for piece := range pieces(sorted) {
		l := make([]api.Value, len(piece))
		for i, v := range piece {
			l[i] = cell(v, n)
		}
		blocks.Raw(blockOf(kind, l))
	}
	w.Word(uint32(blocks.Len()))
	w.Raw(blocks.Bytes())
}

// pieces gives the versions of each block, each piece with its own end: nothing behind it is within its reach.
func pieces(sorted []api.Version) iter.Seq[[]api.Version] {
	return func(yield func([]api.Version) bool) {
		for left := sorted; len(left) > 0; {
			n := min(len(left), api.MaxBlock)
			if !yield(left[:n:n]) {
				return
			}
			left = left[n:]
		}
	}
}

// cell is what a version has in a column, one of its row's or one behind these.
func cell(v api.Version, n int) api.Value {
	switch n - len(v.Row) {
	case 0:
		return value.Int(int64(v.Id.Epoch))
	case 1:
		return value.Int(int64(v.Id.Number))
	case 2:
		return value.Int(int64(v.Deleted))
	}
	return v.Row[n]
}

// blockOf writes right values, no more than a block may have. So it is the kind alone that can be refused, and the best one never is.
func blockOf(kind int, l []api.Value) []byte {
	b, e := block.Write(kind, l)
	if e != api.OK {
		b, _ = block.Write(theBest, l)
	}
	return b
}
