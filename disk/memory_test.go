package disk_test

import (
	"slices"
	"testing"

	"hayloft/api"
	"hayloft/disk"
)

// spoil writes over a list and the spare room behind it.
func spoil[T any](l []T, with T) {
	l = l[:cap(l)]
	for i := range l {
		l[i] = with
	}
}

func TestWhatIsHandedIn(t *testing.T) {
	d := disk.New(100)
	b := []byte("12345678")
	wantErrno(t, "Append", d.Append("a", b[:3:6]), api.OK)
	wantErrno(t, "Append", d.Append("a", b[:2]), api.OK)
	keep := []int{4, 5, 6}
	x := d.Crash(keep[:1])
	if string(b) != "12345678" || !slices.Equal(keep, []int{4, 5, 6}) {
		t.Error("R5: changed:", string(b), keep)
	}
	d.Flip("a", 0, 0)
	d.Truncate("a", 1)
	d.Append("a", []byte("xyz"))
	if string(b) != "12345678" {
		t.Error("R5: changed later:", string(b))
	}
	spoil(b, '!')
	spoil(keep, -1)
	wantFile(t, "R5: kept", d, "a", "0xyz")
	wantFile(t, "R5: kept", x, "a", "1231")
}

func TestWhatIsAnswered(t *testing.T) {
	d := aDisk(t)
	was := looked(d)
	first, _ := d.Read("b")
	second, _ := d.Read("b")
	names := d.Names()
	spoil(first, '!')
	spoil(names, "!")
	if string(second) != "bcdef" {
		t.Error("R5: two answers share memory:", string(second))
	}
	wantSame(t, "R5: an answer is written to", d, was)
	d.Append("b", []byte("gh"))
	d.Flip("b", 0, 0)
	if string(second) != "bcdef" {
		t.Error("R5: a later call is seen in an answer:", string(second))
	}
	spoil(second, '?')
	wantFile(t, "R5: spare room of an answer is written to", d, "b", "ccdefgh")
}

// An answer's own spare room shows nothing of a later Append, and the other way round.
func TestSpareRoomOfAnAnswer(t *testing.T) {
	d := aDisk(t)
	d.Truncate("b", 2)
	b, _ := d.Read("b")
	spoil(b, '!')
	d.Append("b", []byte("XYZ"))
	wantFile(t, "R5: behind a cut", d, "b", "bcXYZ")
	if string(b) != "!!" {
		t.Error("R5: an answer changed:", string(b))
	}
}

func TestCloneIsAsTheDisk(t *testing.T) {
	d := aDisk(t)
	d.Arm(2)
	d.Append("b", []byte("g"))
	c := d.Clone()
	wantSame(t, "R7: a clone", c, looked(d))
	for _, x := range []*disk.Disk{d, c} {
		wantErrno(t, "P4.6: as armed as this one", x.Sync("b"), api.OK)
		wantErrno(t, "P4.6: as armed as this one", x.Remove("b"), api.ErrDiskDead)
	}
	wantSame(t, "R7: both later", c, looked(d))
	dead := d.Clone()
	wantSame(t, "P4.6: the clone of a dead disk", dead, looked(d))
	wantErrno(t, "P4.6: it is dead", dead.Append("b", nil), api.ErrDiskDead)
	dead.Arm(-1)
	wantErrno(t, "P4.6: it stays dead", dead.Append("b", nil), api.ErrDiskDead)
}

// changes are all that can be done to a disk.
func changes() []func(d *disk.Disk) {
	l := []func(d *disk.Disk){
		func(d *disk.Disk) { d.Flip("a", 0, 0) },
		func(d *disk.Disk) { d.Wipe() },
		func(d *disk.Disk) { d.Append("new", []byte("n")) },
		func(d *disk.Disk) { d.Truncate("b", 2); d.Append("b", []byte("!!!")) },
		func(d *disk.Disk) { d.Arm(0); d.Append("c", []byte("!")) },
	}
	for _, s := range steps() {
		l = append(l, func(d *disk.Disk) { s.do(d) })
	}
	return l
}

func TestClonesGoTheirOwnWays(t *testing.T) {
	for i, change := range changes() {
		d := aDisk(t)
		c := d.Clone()
		was := looked(d)
		change(c)
		wantSame(t, "R7: the clone was changed", d, was)
		if same(looked(c), was) {
			t.Error("change", i, "does nothing")
		}
		wantErrno(t, "R7: the disk was not armed", d.Sync("a"), api.OK)
		d = aDisk(t)
		c = d.Clone()
		change(d)
		wantSame(t, "R7: the disk was changed", c, was)
		wantErrno(t, "R7: the clone was not armed", c.Sync("a"), api.OK)
	}
}

func TestCrashesGoTheirOwnWays(t *testing.T) {
	for _, change := range changes() {
		d := aDisk(t)
		x := d.Crash([]int{9, 9, 9})
		was, found := looked(d), looked(x)
		change(x)
		wantSame(t, "P4.5: the found disk was changed", d, was)
		x = d.Crash([]int{9, 9, 9})
		change(d)
		wantSame(t, "P4.5: the disk was changed", x, found)
	}
}
