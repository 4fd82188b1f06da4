package redo_test

import (
	"bytes"
	"encoding/binary"
	"hash/crc32"
	"math/rand/v2"
	"slices"
	"testing"

	"hayloft/api"
	"hayloft/disk"
	"hayloft/redo"
)

// list makes records of texts.
func list(texts ...string) [][]byte {
	var l [][]byte
	for _, s := range texts {
		l = append(l, []byte(s))
	}
	return l
}

// alike tells whether two lists have the same records; a nil one and an empty one are the same.
func alike(a, b [][]byte) bool { return slices.EqualFunc(a, b, bytes.Equal) }

// number is a Var, as another writer tells it.
func number(n int) []byte {
	switch {
	case n < 253:
		return []byte{byte(n)}
	case n < 1<<16:
		return binary.BigEndian.AppendUint16([]byte{253}, uint16(n))
	}
	return binary.BigEndian.AppendUint32([]byte{254}, uint32(n))
}

// framed is a frame of any body, as another writer tells it.
func framed(body []byte) []byte {
	b := binary.BigEndian.AppendUint32(nil, uint32(len(body)))
	b = binary.BigEndian.AppendUint32(b, crc32.ChecksumIEEE(b))
	b = append(b, body...)
	return binary.BigEndian.AppendUint32(b, crc32.ChecksumIEEE(body))
}

// model is the frame of these records, as the chapter tells it.
func model(records [][]byte) []byte {
	body := number(len(records))
	for _, r := range records {
		body = append(body, number(len(r))...)
		body = append(body, r...)
	}
	return framed(body)
}

// wantErrno says that a call answered so.
func wantErrno(t *testing.T, what string, got, want api.Errno) {
	t.Helper()
	if got != want {
		t.Errorf("%s: answers %d, want %d", what, got, want)
	}
}

// frames are the bytes of records that can be framed.
func frames(t *testing.T, texts ...string) []byte {
	t.Helper()
	b, e := redo.Frames(list(texts...))
	if e != api.OK {
		t.Fatalf("P9.1: Frames of %d records: %d", len(texts), e)
	}
	return b
}

// wantRead wants that b is read so.
func wantRead(t *testing.T, what string, b []byte, records [][]byte, size int) {
	t.Helper()
	if l, n, e := redo.Read(b); !alike(l, records) || n != size || e != api.OK {
		t.Errorf("P9.2: %s: %.200q, %d, %d, want %.200q, %d", what, l, n, e, records, size)
	}
}

// wantSpoilt wants that b is refused by Read, and by Open on a disk that does not change.
func wantSpoilt(t *testing.T, what string, b []byte) {
	t.Helper()
	if l, n, e := redo.Read(b); len(l) != 0 || n != 0 || e != api.ErrRedoSpoilt {
		t.Errorf("P9.2: %s: Read: %d records, %d, %d", what, len(l), n, e)
	}
	d := onDisk(t, b)
	wantNotOpened(t, what, d, api.ErrRedoSpoilt)
	if got := file(t, d); !bytes.Equal(got, b) || d.Steps() != 1 {
		t.Errorf("P9.4: %s: Open of what is spoilt changes the disk: %d steps", what, d.Steps())
	}
}

// onDisk is a disk with a file r of these bytes, that do not last.
func onDisk(t *testing.T, b []byte) *disk.Disk {
	t.Helper()
	d := disk.New(len(b) + 1000)
	if e := d.Append("r", b); e != api.OK {
		t.Fatal("a disk:", e)
	}
	return d
}

// file is what the file r has.
func file(t *testing.T, d *disk.Disk) []byte {
	t.Helper()
	b, ok := d.Read("r")
	if !ok {
		t.Fatal("there is no file r")
	}
	return b
}

// lasts is what is found of the file r, if nothing survives that does not last.
func lasts(t *testing.T, d *disk.Disk) []byte {
	t.Helper()
	return file(t, d.Crash(nil))
}

// create creates a log r that must be.
func create(t *testing.T, d *disk.Disk) *redo.Log {
	t.Helper()
	l, e := redo.Create(d, "r")
	if e != api.OK || l == nil {
		t.Fatal("P9.3: Create:", e)
	}
	return l
}

// open opens a log r that must be.
func open(t *testing.T, what string, d *disk.Disk) *redo.Log {
	t.Helper()
	l, e := redo.Open(d, "r")
	if e != api.OK || l == nil {
		t.Fatalf("P9.4: %s: Open: %d", what, e)
	}
	return l
}

// wantNotOpened wants that Open is refused.
func wantNotOpened(t *testing.T, what string, d *disk.Disk, want api.Errno) {
	t.Helper()
	if l, e := redo.Open(d, "r"); e != want || l != nil {
		t.Errorf("P9.4: %s: Open: %v, %d, want %d", what, l != nil, e, want)
	}
}

// told is all that a log gives; its places must be 0, 1, 2 ..
func told(t *testing.T, l *redo.Log) [][]byte {
	t.Helper()
	var all [][]byte
	for i, r := range l.All() {
		if i != len(all) {
			t.Errorf("P9.6: place %d, want %d", i, len(all))
		}
		all = append(all, r)
	}
	return all
}

// wantLog wants that a log tells these records, and so many bytes, by all of its calls.
func wantLog(t *testing.T, what string, l *redo.Log, records [][]byte, size int) {
	t.Helper()
	if got := told(t, l); !alike(got, records) {
		t.Errorf("P9.6: %s: All: %.200q, want %.200q", what, got, records)
	}
	if l.Len() != len(records) || l.Size() != size {
		t.Errorf("P9.6: %s: Len %d, Size %d, want %d, %d", what, l.Len(), l.Size(), len(records), size)
	}
}

// spoil writes over bytes, and the spare room behind them.
func spoil(b []byte) {
	b = b[:cap(b)]
	for i := range b {
		b[i] ^= 255
	}
}

// spoilAll writes over a list, what it has, and the spare room of both.
func spoilAll(l [][]byte) {
	for _, r := range l {
		spoil(r)
	}
	l = l[:cap(l)]
	for i := range l {
		l[i] = []byte("spoilt")
	}
}

// someRecords draws up to most records, often empty ones.
func someRecords(r *rand.Rand, most int) [][]byte {
	l := make([][]byte, r.IntN(most+1))
	for i := range l {
		l[i] = make([]byte, r.IntN(300)>>r.IntN(9))
		for n := range l[i] {
			l[i][n] = byte(r.Uint32())
		}
	}
	return l
}
