package redo_test

import (
	"bytes"
	"slices"
	"strings"
	"testing"

	"hayloft/api"
	"hayloft/disk"
	"hayloft/redo"
)

// wantNotCreated wants that Create is refused.
func wantNotCreated(t *testing.T, what string, d *disk.Disk, name string, want api.Errno) {
	t.Helper()
	if l, e := redo.Create(d, name); e != want || l != nil {
		t.Errorf("P9.3: %s: Create: %v, %d, want %d", what, l != nil, e, want)
	}
}

func TestCreate(t *testing.T) {
	d := disk.New(1000)
	l := create(t, d)
	wantLog(t, "a new log", l, nil, 0)
	if b := lasts(t, d); len(b) != 0 || d.Steps() != 2 {
		t.Errorf("P9.3: of no file: %q, %d steps", b, d.Steps())
	}
	wantErrno(t, "Append", l.Append([]byte("a")), api.OK)
	d.Append("other", []byte("x"))
	was := d.Steps()
	l = create(t, d)
	wantLog(t, "a log anew", l, nil, 0)
	if b := file(t, d); len(b) != 0 || d.Steps() != was+3 {
		t.Errorf("P9.3: of a file: %q, %d steps", b, d.Steps()-was)
	}
	if l := d.Names(); !slices.Equal(l, []string{"other", "r"}) {
		t.Error("P9.3: another file was touched:", l)
	}
	wantErrno(t, "Append", l.Append([]byte("b")), api.OK)
	wantLog(t, "opened", open(t, "a log anew", d), list("b"), 15)
}

// A file is removed whatever it has.
func TestCreateOnAnything(t *testing.T) {
	for _, b := range [][]byte{nil, []byte("torn"), make([]byte, 50), model(list("a"))} {
		d := onDisk(t, b)
		wantLog(t, "a log anew", create(t, d), nil, 0)
		wantLog(t, "opened", open(t, "a log anew", d), nil, 0)
	}
	d := disk.New(0)
	l := create(t, d)
	wantErrno(t, "P9.5: no room", l.Append(nil), api.ErrDiskFull)
	wantErrno(t, "P9.5: no room, no record", l.Append(), api.OK)
	wantLog(t, "no room", l, nil, 0)
	long := strings.Repeat("n", api.MaxFile)
	if l, e := redo.Create(d, long); e != api.OK || l.Len() != 0 {
		t.Error("P9.3: a long name:", e)
	}
	for _, name := range []string{"", long + "n", "a b", "a\x00", "\x7f", "\xc3\xa4"} {
		was := d.Steps()
		wantNotCreated(t, "a wrong name", d, name, api.ErrDiskName)
		if l, e := redo.Open(d, name); e != api.ErrDiskNone || l != nil {
			t.Errorf("P9.4: Open(%q): %d", name, e)
		}
		if d.Steps() != was {
			t.Errorf("P9.3: a name that is refused makes a step: %q", name)
		}
	}
}

// Create dies at each of its steps; what is done by then is done.
func TestCreateDies(t *testing.T) {
	was := model(list("a"))
	for at := range 4 {
		d := onDisk(t, was)
		d.Sync("r")
		d.Arm(at)
		if at == 3 {
			create(t, d)
			continue
		}
		wantNotCreated(t, "it dies", d, "r", api.ErrDiskDead)
		want := ""
		if at == 0 {
			want = string(was)
		}
		if b, _ := d.Read("r"); string(b) != want || d.Steps() != 3+at {
			t.Errorf("P9.3: dies at %d: %q, %d steps", at, b, d.Steps()-2)
		}
		wantNotCreated(t, "it is dead", d, "r", api.ErrDiskDead)
		wantNotCreated(t, "it is dead, no such file", d, "s", api.ErrDiskDead)
		wantNotCreated(t, "it is dead, a wrong name", d, "", api.ErrDiskDead)
	}
}

func TestOpen(t *testing.T) {
	one, two := model(list("a")), model(list("b", ""))
	both := slices.Concat(one, two)
	for n := range len(both) + 1 {
		size, records := 0, [][]byte(nil)
		switch {
		case n == len(both):
			size, records = n, list("a", "b", "")
		case n >= len(one):
			size, records = len(one), list("a")
		}
		d := onDisk(t, both[:n])
		l := open(t, "cut off", d)
		wantLog(t, "cut off", l, records, size)
		if got := lasts(t, d); !bytes.Equal(got, both[:size]) {
			t.Errorf("P9.4: cut off at %d: %q lasts, want %q", n, got, both[:size])
		}
		steps := 2 // the Append, the Sync, and the Truncate where something is torn
		if size < n {
			steps = 3
		}
		if d.Steps() != steps {
			t.Errorf("P9.4: cut off at %d: %d steps, want %d", n, d.Steps(), steps)
		}
		wantErrno(t, "P9.5: behind Open", l.Append([]byte("c"), []byte("d")), api.OK)
		records, size = append(records, list("c", "d")...), size+17
		wantLog(t, "and more", l, records, size)
		wantLog(t, "opened", open(t, "and more", d), records, size)
	}
}

func TestOpenErrors(t *testing.T) {
	d := onDisk(t, make([]byte, 20))
	wantNotOpened(t, "spoilt", d, api.ErrRedoSpoilt)
	if l, e := redo.Open(d, "s"); e != api.ErrDiskNone || l != nil {
		t.Error("P9.4: no such file:", e)
	}
	d.Arm(0)
	d.Sync("r")
	wantNotOpened(t, "spoilt, and dead", d, api.ErrDiskDead)
	if l, e := redo.Open(d, "s"); e != api.ErrDiskDead || l != nil {
		t.Error("P9.4: no such file, and dead:", e)
	}
	d = onDisk(t, model(list("a")))
	d.Arm(0)
	wantNotOpened(t, "dies at Sync", d, api.ErrDiskDead)
	if d.Steps() != 2 {
		t.Error("P9.4: dies at Sync: steps:", d.Steps())
	}
}

// Open dies at Truncate, and at the Sync behind it: it does nothing further.
func TestOpenDies(t *testing.T) {
	one := model(list("a"))
	torn := slices.Concat(one, one[:9])
	d := onDisk(t, torn)
	d.Arm(0)
	wantNotOpened(t, "dies at Truncate", d, api.ErrDiskDead)
	if !bytes.Equal(file(t, d), torn) || d.Steps() != 2 {
		t.Errorf("P9.4: dies at Truncate: %q, %d steps", file(t, d), d.Steps())
	}
	d = onDisk(t, torn)
	d.Arm(1)
	wantNotOpened(t, "dies at Sync", d, api.ErrDiskDead)
	if !bytes.Equal(file(t, d), one) || d.Steps() != 3 {
		t.Errorf("P9.4: dies at Sync: %q, %d steps", file(t, d), d.Steps())
	}
}

// A log that is opened has frames of no records too, if another writer left them.
func TestOpenFramesOfNothing(t *testing.T) {
	b := slices.Concat(model(nil), model(list("a")), model(nil))
	d := onDisk(t, b)
	l := open(t, "frames of nothing", d)
	wantLog(t, "frames of nothing", l, list("a"), len(b))
	wantErrno(t, "Append", l.Append(nil), api.OK)
	wantLog(t, "and more", l, list("a", ""), len(b)+14)
}

func TestAppend(t *testing.T) {
	d := disk.New(1000)
	l := create(t, d)
	var records [][]byte
	var want []byte
	for i, more := range [][][]byte{list("a"), nil, {nil}, list("b", "", "c"), {}, {nil, nil}, list(strings.Repeat("d", 253))} {
		was := d.Steps()
		wantErrno(t, "P9.5: Append", l.Append(more...), api.OK)
		steps := 2
		if len(more) == 0 {
			steps = 0
		} else {
			want = append(want, model(more)...)
		}
		records = append(records, more...)
		if d.Steps() != was+steps {
			t.Errorf("P9.5: Append %d: %d steps, want %d", i, d.Steps()-was, steps)
		}
		if got := lasts(t, d); !bytes.Equal(got, want) {
			t.Errorf("P9.5: Append %d: %x lasts, want %x", i, got, want)
		}
		wantLog(t, "appended", l, records, len(want))
		wantLog(t, "opened", open(t, "appended", d), records, len(want))
	}
	if l := d.Names(); !slices.Equal(l, []string{"r"}) {
		t.Error("P9.5: another file:", l)
	}
}

// Two logs on a disk do not see each other.
func TestTwoLogs(t *testing.T) {
	d := disk.New(1000)
	l := create(t, d)
	other, e := redo.Create(d, "s")
	wantErrno(t, "Create", e, api.OK)
	wantErrno(t, "Append", l.Append([]byte("a")), api.OK)
	wantErrno(t, "Append", other.Append([]byte("b"), []byte("c")), api.OK)
	wantErrno(t, "Append", l.Append([]byte("d")), api.OK)
	wantLog(t, "one", l, list("a", "d"), 30)
	wantLog(t, "the other", other, list("b", "c"), 17)
	wantLog(t, "one, opened", open(t, "one", d), list("a", "d"), 30)
	other, e = redo.Open(d, "s")
	wantErrno(t, "Open", e, api.OK)
	wantLog(t, "the other, opened", other, list("b", "c"), 17)
}

// An Append that is refused changes nothing: the log goes on.
func TestAppendRefused(t *testing.T) {
	d := disk.New(15 + 16)
	l := create(t, d)
	wantErrno(t, "Append", l.Append([]byte("a")), api.OK)
	wantErrno(t, "P9.5: a byte too many", l.Append([]byte("bbb")), api.ErrDiskFull)
	wantErrno(t, "P9.5: too long", l.Append(make([]byte, api.MaxFrame)), api.ErrRedoLong)
	wantErrno(t, "P9.5: too long in all", l.Append(make([]byte, api.MaxFrame/2), make([]byte, api.MaxFrame/2)), api.ErrRedoLong)
	wantLog(t, "refused", l, list("a"), 15)
	if d.Steps() != 4 || !bytes.Equal(file(t, d), model(list("a"))) {
		t.Error("P9.5: refused, and yet done:", d.Steps())
	}
	wantErrno(t, "P9.5: just what there is room for", l.Append([]byte("bb")), api.OK)
	wantLog(t, "full", l, list("a", "bb"), 31)
	wantErrno(t, "P9.5: full", l.Append(nil), api.ErrDiskFull)
	wantErrno(t, "P9.5: full, no record", l.Append(), api.OK)
	wantLog(t, "full", l, list("a", "bb"), 31)
	wantLog(t, "full, opened", open(t, "full", d), list("a", "bb"), 31)
}

// The disk dies at an Append's Append, or at its Sync: the log tells what it told, and nothing more is done.
func TestAppendDies(t *testing.T) {
	for at := range 2 {
		d := disk.New(1000)
		l := create(t, d)
		wantErrno(t, "Append", l.Append([]byte("a")), api.OK)
		d.Arm(at)
		wantErrno(t, "P9.5: it dies", l.Append([]byte("b"), []byte("c")), api.ErrDiskDead)
		wantLog(t, "it dies", l, list("a"), 15)
		if d.Steps() != 5+at {
			t.Errorf("P9.5: dies at %d: %d steps", at, d.Steps())
		}
		wantErrno(t, "P9.5: it is dead", l.Append([]byte("d")), api.ErrDiskDead)
		wantErrno(t, "P9.5: it is dead, and too long", l.Append(make([]byte, api.MaxFrame)), api.ErrRedoLong)
		wantErrno(t, "P9.5: it is dead, no record", l.Append(), api.OK)
		wantLog(t, "it is dead", l, list("a"), 15)
		if b := lasts(t, d); !bytes.Equal(b, model(list("a"))) {
			t.Errorf("P9.5: dies at %d: %q lasts", at, b)
		}
	}
}

// A record of as many bytes as a frame has room for is kept, and found.
func TestGreatestRecord(t *testing.T) {
	d := disk.New(2 * api.MaxFrame)
	l := create(t, d)
	great := bytes.Repeat([]byte("xyz"), api.MaxFrame/3)[:api.MaxFrame-6]
	wantErrno(t, "Append", l.Append(great), api.OK)
	wantErrno(t, "Append", l.Append([]byte("a")), api.OK)
	wantErrno(t, "P9.5: too long", l.Append(great, nil), api.ErrRedoLong)
	want := [][]byte{great, []byte("a")}
	for _, l := range []*redo.Log{l, open(t, "the greatest", d)} {
		if !alike(told(t, l), want) || l.Len() != 2 || l.Size() != api.MaxFrame+12+15 {
			t.Error("P9.6: the greatest:", l.Len(), l.Size())
		}
	}
}

// The disk is kept: it is the one that was handed in that is written to.
func TestDiskIsKept(t *testing.T) {
	d := disk.New(1000)
	l := create(t, d)
	m := open(t, "again", d)
	wantErrno(t, "Append", l.Append([]byte("a")), api.OK)
	wantErrno(t, "Append by the other", m.Append([]byte("b")), api.OK)
	wantLog(t, "one", l, list("a"), 15)
	wantLog(t, "the other", m, list("b"), 15)
	wantLog(t, "opened", open(t, "both", d), list("a", "b"), 30)
	found := d.Crash(nil)
	wantErrno(t, "Append", l.Append([]byte("c")), api.OK)
	wantLog(t, "what was found ahead", open(t, "found", found), list("a", "b"), 30)
}
