package block

import (
	"slices"

	"hayloft/api"
	"hayloft/codec"
	"hayloft/encode"
	"hayloft/rows"
	"hayloft/value"
)

// mostHead is how many bytes a head has at most: three, two texts, and how long the encoding is.
const mostHead = 3 + 2*(2+api.MaxText) + 2

// headOf is the head of a block with these values, one at least; it leaves open how many bytes the block has.
func headOf(kind int, l []api.Value) Info {
	i := Info{
		Kind: kind,
		Many: len(l),
		Min:  slices.MinFunc(l, value.Compare),
		Max:  slices.MaxFunc(l, value.Compare),
	}
	for _, v := range l {
		if v.Kind == api.KindNull {
			i.Nulls++
		}
	}
	return i
}

// tells answers whether a head says of its values what they are.
func tells(i Info, l []api.Value) bool {
	want := headOf(i.Kind, l)
	want.Bytes = i.Bytes
	return i == want
}

// putHead writes a head, ahead of an encoding of so many bytes.
func putHead(w *codec.Writer, i Info, encoded int) {
	w.Byte(byte(i.Kind))
	w.Byte(byte(i.Many))
	w.Byte(byte(i.Nulls))
	putValue(w, i.Min)
	putValue(w, i.Max)
	w.Byte(byte(encoded >> 8))
	w.Byte(byte(encoded))
}

// takeHead reads a head, and tells how many bytes it has; the block must end within b.
func takeHead(b []byte) (Info, int, api.Errno) {
	front := b[:min(len(b), mostHead)] // a reader copies what it is given, and b may be long
	r := codec.Read(front)
	var i Info
	i.Kind = int(r.Byte())
	i.Many = int(r.Byte())
	i.Nulls = int(r.Byte())
	i.Min = takeValue(r)
	i.Max = takeValue(r)
	high := int(r.Byte())
	encoded := high<<8 + int(r.Byte())
	size := len(front) - r.Left()
	i.Bytes = size + encoded + sumSize
	if r.Err() != api.OK || !mayBe(i) || i.Bytes > len(b) {
		return Info{}, 0, api.ErrBlockForm
	}
	return i, size, api.OK
}

// mayBe tells whether a block may have such a kind of encoding, so many values, and so many nulls.
func mayBe(i Info) bool {
	known := encode.Can(i.Kind, nil) // no values can be written in each kind that there is
	return known && i.Many >= 1 && i.Many <= api.MaxBlock && i.Nulls <= i.Many
}

// putValue writes the bytes of a value that is right: its row's, but for the byte ahead that counts the values.
func putValue(w *codec.Writer, v api.Value) {
	if b, e := rows.Encode([]api.Value{v}); e == api.OK {
		w.Raw(b[1:])
	}
}

// takeValue reads a value's bytes. The byte of a bool, and that of a text's length, are as a Var of so small a number.
func takeValue(r *codec.Reader) api.Value {
	switch r.Byte() {
	case api.KindNull:
		return value.Null()
	case api.KindBool:
		return value.Bool(r.Var(1) == 1)
	case api.KindInt:
		return value.Int(int64(r.Long()))
	case api.KindText:
		return value.Text(string(r.Text(api.MaxText)))
	}
	r.Fail(api.ErrBlockForm)
	return value.Null()
}
