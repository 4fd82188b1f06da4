package disk_test

import (
	"math"
	"testing"

	"hayloft/api"
	"hayloft/disk"
)

// aStep is a call that is one on aDisk.
type aStep struct {
	name string
	do   func(d *disk.Disk) api.Errno
}

func steps() []aStep {
	return []aStep{
		{"Append", func(d *disk.Disk) api.Errno { return d.Append("b", []byte("gh")) }},
		{"Sync", func(d *disk.Disk) api.Errno { return d.Sync("b") }},
		{"Truncate", func(d *disk.Disk) api.Errno { return d.Truncate("b", 1) }},
		{"Rename", func(d *disk.Disk) api.Errno { return d.Rename("b", "c") }},
		{"Remove", func(d *disk.Disk) api.Errno { return d.Remove("b") }},
	}
}

// refusals are calls that are refused on aDisk, so that they are no steps.
func refusals() []aStep {
	return []aStep{
		{"Append", func(d *disk.Disk) api.Errno { return d.Append("", nil) }},
		{"Append", func(d *disk.Disk) api.Errno { return d.Append("b", make([]byte, 89)) }},
		{"Sync", func(d *disk.Disk) api.Errno { return d.Sync("d") }},
		{"Truncate", func(d *disk.Disk) api.Errno { return d.Truncate("d", 0) }},
		{"Truncate", func(d *disk.Disk) api.Errno { return d.Truncate("b", 6) }},
		{"Rename", func(d *disk.Disk) api.Errno { return d.Rename("d", "b") }},
		{"Rename", func(d *disk.Disk) api.Errno { return d.Rename("b", "") }},
		{"Remove", func(d *disk.Disk) api.Errno { return d.Remove("d") }},
	}
}

func TestDiesAtAStep(t *testing.T) {
	for _, s := range steps() {
		d := aDisk(t)
		was := looked(d)
		d.Arm(0)
		wantSame(t, "P4.4: Arm alone", d, was)
		wantErrno(t, "P4.2: dies at "+s.name, s.do(d), api.ErrDiskDead)
		was.Steps, was.Dead = 7, true
		if s.name == "Append" {
			was.Files[1].Bytes, was.Most[1].Bytes, was.Free = "bcdefgh", "bcdefgh", 86
		}
		wantSame(t, "P4.2: dies at "+s.name, d, was)
		for _, after := range append(steps(), refusals()...) {
			wantErrno(t, "P4.2: a dead disk tells so first of all: "+after.name, after.do(d), api.ErrDiskDead)
		}
		d.Arm(-1)
		d.Arm(3)
		wantErrno(t, "P4.4: a dead disk can't be armed or not", d.Sync("b"), api.ErrDiskDead)
		wantSame(t, "P4.2: what is refused on a dead disk", d, was)
	}
}

func TestDyingAppend(t *testing.T) {
	d := disk.New(3)
	d.Arm(0)
	wantErrno(t, "P4.2: dies at an Append", d.Append("new", []byte("123")), api.ErrDiskDead)
	wantFile(t, "P4.2: the file is there", d, "new", "123")
	wantFile(t, "P4.2: the bytes do not last", d.Crash(nil), "new", "")
	wantFile(t, "P4.2: some may be found", d.Crash([]int{2}), "new", "12")
	d = disk.New(3)
	d.Arm(0)
	wantErrno(t, "P4.2: dies at an Append of no byte", d.Append("new", nil), api.ErrDiskDead)
	wantFile(t, "P4.2: the file is there", d.Crash(nil), "new", "")
}

func TestArm(t *testing.T) {
	for at := range 4 {
		d := aDisk(t)
		d.Arm(at)
		for range at {
			wantErrno(t, "P4.4: a step before", d.Append("c", nil), api.OK)
		}
		for _, s := range refusals() {
			if e := s.do(d); e == api.OK || e == api.ErrDiskDead || d.Dead() {
				t.Errorf("P4.2: %s, which is refused, is no step: %d, %v", s.name, e, d.Dead())
			}
		}
		d.Read("c")
		d.Names()
		d.Flip("c", 0, 0)
		wantErrno(t, "P4.4: the step", d.Append("c", nil), api.ErrDiskDead)
		if !d.Dead() || d.Steps() != 7+at {
			t.Error("P4.4: Dead, Steps:", d.Dead(), d.Steps())
		}
	}
}

func TestArmAgain(t *testing.T) {
	d := aDisk(t)
	d.Arm(0)
	d.Arm(2)
	wantErrno(t, "P4.4: a later Arm takes the place", d.Sync("a"), api.OK)
	d.Arm(1)
	wantErrno(t, "P4.4: it counts from then on", d.Sync("a"), api.OK)
	wantErrno(t, "P4.4: it counts from then on", d.Sync("a"), api.ErrDiskDead)

	for _, at := range []int{-1, -2, math.MinInt, math.MaxInt} {
		d = aDisk(t)
		d.Arm(0)
		d.Arm(at)
		for range 20 {
			wantErrno(t, "P4.4: not armed any more, or for long", d.Sync("a"), api.OK)
		}
	}
}

func TestCrash(t *testing.T) {
	for _, k := range []struct {
		keep    []int
		a, b, c string
	}{
		{nil, "1234", "bcd", ""},
		{[]int{}, "1234", "bcd", ""},
		{[]int{5}, "1234", "bcd", ""},
		{[]int{0, 1}, "1234", "bcde", ""},
		{[]int{0, 2, 1}, "1234", "bcdef", "x"},
		{[]int{7, -1, 2}, "1234", "bcd", "xy"},
		{[]int{0, 3, 4, 9, 9}, "1234", "bcdef", "xyz"},
		{[]int{math.MaxInt, math.MaxInt, math.MaxInt}, "1234", "bcdef", "xyz"},
		{[]int{math.MinInt, math.MinInt, math.MinInt}, "1234", "bcd", ""},
	} {
		d := aDisk(t)
		d.Arm(1)
		was := looked(d)
		x := d.Crash(k.keep)
		wantSame(t, "P4.5: this disk does not change", d, was)
		wantFound(t, x, k.a, k.b, k.c)
		wantErrno(t, "P4.5: this disk stays armed", d.Sync("a"), api.OK)
		wantErrno(t, "P4.5: this disk stays armed", d.Sync("a"), api.ErrDiskDead)
		y := d.Crash(k.keep)
		wantFound(t, y, k.a, k.b, k.c)
		wantErrno(t, "P4.5: not armed", y.Append("a", make([]byte, y.Free())), api.OK)
		if !d.Dead() || d.Steps() != 8 {
			t.Error("P4.5: the dead disk does not change:", d.Dead(), d.Steps())
		}
	}
}

// wantFound says that a disk that was found behind a crash has these bytes in a, b and c, and that they last.
func wantFound(t *testing.T, x *disk.Disk, a, b, c string) {
	t.Helper()
	if x.Dead() || x.Steps() != 0 || x.Free() != 100-len(a+b+c) || len(x.Names()) != 3 {
		t.Error("P4.5: Dead, Steps, Free, Names:", x.Dead(), x.Steps(), x.Free(), x.Names())
	}
	for _, y := range []*disk.Disk{x, x.Crash(nil)} {
		wantFile(t, "P4.5: found", y, "a", a)
		wantFile(t, "P4.5: found", y, "b", b)
		wantFile(t, "P4.5: found", y, "c", c)
	}
	for range 9 {
		wantErrno(t, "P4.5: not armed", x.Sync("a"), api.OK)
	}
	if x.Steps() != 9 {
		t.Error("P4.3: Steps since the Crash:", x.Steps())
	}
}

func TestFlip(t *testing.T) {
	for bit := range 8 {
		d := aDisk(t)
		if !d.Flip("b", 4, bit) || !d.Flip("b", 0, bit) {
			t.Error("P4.6: Flip: false")
		}
		first, last := string([]byte{'b' ^ 1<<bit}), string([]byte{'f' ^ 1<<bit})
		wantFile(t, "P4.6: the bits are turned", d, "b", first+"cde"+last)
		wantFile(t, "P4.6: whether bytes last does not change", d.Crash(nil), "b", first+"cd")
		if d.Steps() != 6 || d.Free() != 88 {
			t.Error("P4.6: it is no step:", d.Steps(), d.Free())
		}
		d.Flip("b", 4, bit)
		wantFile(t, "P4.6: and back", d, "b", first+"cdef")
	}
	d := aDisk(t)
	was := looked(d)
	for _, k := range []struct {
		name    string
		at, bit int
	}{{"b", -1, 0}, {"b", 5, 0}, {"b", math.MinInt, 0}, {"b", math.MaxInt, 0}, {"b", 0, -1}, {"b", 0, 8}, {"b", 0, math.MinInt}, {"b", 0, math.MaxInt}, {"d", 0, 0}, {"", 0, 0}} {
		if d.Flip(k.name, k.at, k.bit) {
			t.Errorf("P4.6: Flip of what there is not: %+v", k)
		}
	}
	wantSame(t, "P4.6: false", d, was)
}

func TestFlipAndWipeOfADeadDisk(t *testing.T) {
	d := aDisk(t)
	d.Arm(0)
	d.Sync("c")
	if !d.Flip("b", 0, 0) {
		t.Error("P4.6: Flip on a dead disk")
	}
	wantFile(t, "P4.6: Flip on a dead disk", d, "b", "ccdef")
	d.Wipe()
	if len(d.Names()) != 0 || d.Free() != 100 || !d.Dead() || d.Steps() != 7 {
		t.Error("P4.6: Wipe of a dead disk:", d.Names(), d.Free(), d.Dead(), d.Steps())
	}
}

func TestWipe(t *testing.T) {
	d := aDisk(t)
	d.Arm(1)
	d.Wipe()
	if len(d.Names()) != 0 || d.Free() != 100 || d.Dead() || d.Steps() != 6 || len(d.Crash([]int{9, 9, 9}).Names()) != 0 {
		t.Error("P4.6: Wipe:", d.Names(), d.Free(), d.Dead(), d.Steps())
	}
	wantNoFile(t, "P4.6: Wipe", d, "a")
	wantErrno(t, "P4.6: no file is there", d.Sync("a"), api.ErrDiskNone)
	wantErrno(t, "P4.6: it can be written again", d.Append("a", []byte("n")), api.OK)
	wantFile(t, "P4.6: nothing of what lasted is left", d.Crash(nil), "a", "")
	wantErrno(t, "P4.6: it stays armed", d.Sync("a"), api.ErrDiskDead)
}
