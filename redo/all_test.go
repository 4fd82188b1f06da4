package redo_test

import (
	"bytes"
	"testing"

	"hayloft/api"
	"hayloft/disk"
	"hayloft/redo"
)

// three is a log of a, b, c.
func three(t *testing.T) *redo.Log {
	t.Helper()
	l := create(t, disk.New(10000))
	wantErrno(t, "Append", l.Append(list("a", "b")...), api.OK)
	wantErrno(t, "Append", l.Append(list("c")...), api.OK)
	return l
}

// A range tells what there was when it began; the next one tells more.
func TestAllWhileAppending(t *testing.T) {
	l := three(t)
	all := l.All()
	wantErrno(t, "Append ahead of the range", l.Append(list("d")...), api.OK)
	var got [][]byte
	for i, r := range all {
		if i != len(got) {
			t.Error("P9.6: place", i)
		}
		got = append(got, r)
		wantErrno(t, "Append within", l.Append(list("x", "y")...), api.OK)
		if l.Len() != 4+2*len(got) {
			t.Error("P9.6: Len within:", l.Len())
		}
	}
	if !alike(got, list("a", "b", "c", "d")) {
		t.Errorf("P9.6: appended within a range: %q", got)
	}
	got = nil
	for _, r := range all {
		got = append(got, r)
	}
	want := list("a", "b", "c", "d", "x", "y", "x", "y", "x", "y", "x", "y")
	if !alike(got, want) {
		t.Errorf("R11: the same iterator later: %q", got)
	}
}

// A range within a range, each of its own beginning.
func TestAllWithin(t *testing.T) {
	l := three(t)
	all := l.All()
	sum := ""
	for _, r := range all {
		sum += "<" + string(r)
		wantErrno(t, "Append within", l.Append(list("d")...), api.OK)
		for _, s := range all {
			sum += string(s)
		}
	}
	if sum != "<aabcd<babcdd<cabcddd" {
		t.Error("P9.6: a range within a range:", sum)
	}
}

func TestAllLeft(t *testing.T) {
	l := three(t)
	all := l.All()
	for stop := range 4 {
		var got [][]byte
		for i, r := range all {
			if i == stop {
				break
			}
			got = append(got, r)
		}
		if !alike(got, list("a", "b", "c")[:stop]) {
			t.Errorf("R11: left at %d: %q", stop, got)
		}
	}
	wantLog(t, "ranges that were left", l, list("a", "b", "c"), 17+15)
}

func TestAllOfNothing(t *testing.T) {
	l := create(t, disk.New(100))
	for i, r := range l.All() {
		t.Errorf("P9.6: an empty log gives %d, %q", i, r)
	}
}

// R5: what a range gives is new memory each time.
func TestAllMemory(t *testing.T) {
	l := three(t)
	var kept [][]byte
	for _, r := range l.All() {
		kept = append(kept, bytes.Clone(r))
		spoil(r)
	}
	if !alike(kept, list("a", "b", "c")) {
		t.Errorf("R5: a record shows what was written to another: %q", kept)
	}
	wantLog(t, "R5: written to", l, list("a", "b", "c"), 17+15)
	first, second := told(t, l), told(t, l)
	spoilAll(first)
	if !alike(second, list("a", "b", "c")) {
		t.Errorf("R5: two ranges share memory: %q", second)
	}
}

// R5: what is appended is neither changed nor kept.
func TestAppendMemory(t *testing.T) {
	d := disk.New(1000)
	l := create(t, d)
	room := []byte("abcdefgh")
	full := [][]byte{room[:2], room[4:6], []byte("spare")}
	wantErrno(t, "Append", l.Append(full[:2]...), api.OK)
	if string(room) != "abcdefgh" || string(full[2]) != "spare" || len(full[0]) != 2 || len(full[1]) != 2 {
		t.Errorf("R5: changed: %q, %q", room, full)
	}
	spoilAll(full)
	spoil(room)
	wantLog(t, "R5: kept", l, list("ab", "ef"), 19)
	wantLog(t, "R5: kept on the disk", open(t, "kept", d), list("ab", "ef"), 19)
	wantErrno(t, "Append", l.Append(list("i", "j")...), api.OK)
	if string(full[2]) != "spoilt" {
		t.Errorf("R5: spare room is written to later: %q", full[2])
	}
}

// What a log tells stands in memory: turning bits in the file, or taking it away, is not seen by a log that is open.
func TestFileChangesUnseen(t *testing.T) {
	d := disk.New(1000)
	l := create(t, d)
	wantErrno(t, "Append", l.Append(list("a")...), api.OK)
	m := open(t, "a", d)
	d.Flip("r", 10, 3)
	wantLog(t, "a bit turned", l, list("a"), 15)
	wantLog(t, "a bit turned", m, list("a"), 15)
	wantNotOpened(t, "a bit turned", d, api.ErrRedoSpoilt)
	d.Wipe()
	wantLog(t, "wiped", l, list("a"), 15)
	wantNotOpened(t, "wiped", d, api.ErrDiskNone)
}
