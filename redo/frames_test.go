package redo_test

import (
	"bytes"
	"encoding/hex"
	"math/rand/v2"
	"slices"
	"testing"

	"hayloft/api"
	"hayloft/redo"
)

// wantFrames wants the bytes that the chapter tells.
func wantFrames(t *testing.T, what string, records [][]byte) {
	t.Helper()
	b, e := redo.Frames(records)
	if e != api.OK || !bytes.Equal(b, model(records)) {
		t.Fatalf("P9.1: %s: Frames: %d bytes, %d: %.100x", what, len(b), e, b)
	}
	wantRead(t, what, b, records, len(b))
}

// wantLong wants that records are refused by Frames.
func wantLong(t *testing.T, what string, records [][]byte) {
	t.Helper()
	if b, e := redo.Frames(records); len(b) != 0 || e != api.ErrRedoLong {
		t.Errorf("P9.1: %s: Frames: %d bytes, %d", what, len(b), e)
	}
}

func TestFrames(t *testing.T) {
	wantFrames(t, "none", nil)
	wantFrames(t, "none", [][]byte{})
	wantFrames(t, "nothing", [][]byte{nil})
	wantFrames(t, "nothing", [][]byte{{}})
	wantFrames(t, "some", list("a", "", "bcd", "\x00\xff"))
	for _, n := range []int{252, 253, 254, 255, 256, 1<<16 - 1, 1 << 16} {
		wantFrames(t, "many empty records", make([][]byte, n))
		wantFrames(t, "a long record", [][]byte{make([]byte, n), []byte("z")})
	}
	if b := frames(t, "b", ""); hex.EncodeToString(b) != "0000000426291b0502016200dd447485" {
		t.Errorf("P9.1: b, nothing: %x", b)
	}
	r := rand.New(rand.NewPCG(9, 1))
	for range 500 {
		wantFrames(t, "any", someRecords(r, 12))
	}
}

// What is framed has a byte for the count, and, of a record of 2^16 bytes and more, five for its length.
func TestFramesGreatest(t *testing.T) {
	most := api.MaxFrame - 1 - 5
	whole := bytes.Repeat([]byte("abcdefg"), most/7+2)
	wantFrames(t, "just MaxFrame bytes", [][]byte{whole[:most]})
	wantLong(t, "one byte more", [][]byte{whole[:most+1]})
	wantLong(t, "an empty record more", [][]byte{whole[:most], nil})
	wantLong(t, "an empty record more, ahead", [][]byte{nil, whole[:most]})
	wantFrames(t, "a byte fewer, an empty record more", [][]byte{whole[:most-1], nil})
	wantLong(t, "a record of MaxFrame bytes", [][]byte{make([]byte, api.MaxFrame)})
	wantLong(t, "a record of more", [][]byte{make([]byte, api.MaxFrame+1)})
	wantLong(t, "a record that is too long, others behind it", [][]byte{make([]byte, 2*api.MaxFrame), nil, nil})
	half := whole[:api.MaxFrame/2]
	wantLong(t, "two halves", [][]byte{half, half})
	// 1 + 5 + 8388602 + 5 + 8388603 are 2^24
	wantFrames(t, "two that fit", [][]byte{half[:api.MaxFrame/2-6], half[:api.MaxFrame/2-5]})
	wantLong(t, "two that do not", [][]byte{half[:api.MaxFrame/2-5], half[:api.MaxFrame/2-5]})
}

// The edge of MaxFrame where it is the lengths that do not fit any more.
func TestFramesManyRecords(t *testing.T) {
	most := api.MaxFrame - 5
	b, e := redo.Frames(make([][]byte, most))
	if e != api.OK || len(b) != api.MaxFrame+12 {
		t.Errorf("P9.1: %d empty records: %d bytes, %d", most, len(b), e)
	}
	if l, n, e := redo.Read(b); e != api.OK || len(l) != most || n != len(b) {
		t.Errorf("P9.2: %d empty records: %d, %d, %d", most, len(l), n, e)
	}
	wantLong(t, "one empty record more", make([][]byte, most+1))
	wantLong(t, "many more", make([][]byte, 2*api.MaxFrame))
	// A kilobyte that stands a million times over is a gigabyte, if it is written before it is refused.
	wantLong(t, "a gigabyte", slices.Repeat([][]byte{make([]byte, 1024)}, 1<<20))
}

// R5: neither the records, nor what is behind them, nor their list is changed or kept.
func TestFramesMemory(t *testing.T) {
	room := []byte("abcdefgh")
	full := [][]byte{room[:2], room[4:6], []byte("spare")}
	b, _ := redo.Frames(full[:2])
	other, _ := redo.Frames(full[:2])
	if string(room) != "abcdefgh" || string(full[2]) != "spare" || len(full[0]) != 2 || len(full[1]) != 2 {
		t.Errorf("R5: changed: %q, %q", room, full)
	}
	want := model(list("ab", "ef"))
	spoilAll(full)
	spoil(other)
	if !bytes.Equal(b, want) {
		t.Errorf("R5: kept: %x, want %x", b, want)
	}
}
