package redo

import (
	"hayloft/api"
	"hayloft/codec"
)

// Frames are records as the bytes of a file: one frame, so that all of them are found, or none.
func Frames(records [][]byte) ([]byte, api.Errno) {
	w := codec.New()
	w.Var(uint64(len(records)))
	for _, record := range records {
		// refused ahead of writing: no memory is taken for what is too long, however long it is
		if len(record) > api.MaxFrame-w.Len() {
			return nil, api.ErrRedoLong
		}
		w.Text(record)
	}
	b, e := codec.Frame(w.Bytes())
	if e != api.OK {
		return nil, api.ErrRedoLong
	}
	return b, api.OK
}

// Read answers the records of the frames that b begins with, and how many bytes these frames have; what is torn behind them is left out.
func Read(b []byte) ([][]byte, int, api.Errno) {
	var records [][]byte
	size := 0
frames:
	for size < len(b) {
		body, n, e := codec.Unframe(b[size:])
		switch e {
		case api.OK:
		case api.ErrCodecShort:
			break frames
		default:
			return nil, 0, api.ErrRedoSpoilt
		}
		r := codec.Read(body)
		for _, record := range codec.Items(r, api.MaxFrame, takeRecord) {
			records = append(records, record)
		}
		if r.End() != api.OK {
			return nil, 0, api.ErrRedoSpoilt
		}
		size += n
	}
	return records, size, api.OK
}

// takeRecord reads one record; a frame has no room for a longer one.
func takeRecord(r *codec.Reader) []byte { return r.Text(api.MaxFrame) }
