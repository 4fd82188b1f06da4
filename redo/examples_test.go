package redo_test

import (
	"bytes"
	"testing"

	"hayloft/api"
	"hayloft/disk"
	"hayloft/redo"
)

// The chapter's examples, as they stand there.
func TestExamples(t *testing.T) {
	d := disk.New(1000)
	wantNotOpened(t, "an empty disk", d, api.ErrDiskNone)
	l := create(t, d)
	wantErrno(t, "Append(none)", l.Append(), api.OK)
	wantErrno(t, "Append(a)", l.Append([]byte("a")), api.OK)
	if l.Size() != 15 {
		t.Error("P9.6: Size:", l.Size())
	}
	wantErrno(t, "Append(b, nothing)", l.Append([]byte("b"), nil), api.OK)
	wantLog(t, "three records", l, list("a", "b", ""), 15+16)
	wantLog(t, "Open", open(t, "three records", d), list("a", "b", ""), 15+16)

	b, e := redo.Frames(nil)
	if !bytes.Equal(b, framed([]byte{0})) || len(b) != 13 || e != api.OK {
		t.Errorf("P9.1: Frames(none): %x, %d", b, e)
	}
	wantRead(t, "Frames(none)", b, nil, 13)

	b = frames(t, "x", "yz")
	torn := append(bytes.Clone(b), b[:5]...)
	wantRead(t, "a frame and its first five bytes", torn, list("x", "yz"), len(b))
	torn[9] ^= 4
	wantSpoilt(t, "with a bit turned", torn)
}
