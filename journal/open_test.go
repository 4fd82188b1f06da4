package journal_test

import (
	"bytes"
	"fmt"
	"math"
	"slices"
	"testing"

	"hayloft/api"
	"hayloft/disk"
)

func TestOpenNodes(t *testing.T) {
	for _, n := range []int{0, -1, api.MaxNodes + 1, 256, 257, math.MinInt, math.MaxInt} {
		d := disk.New(1000)
		wantNotOpened(t, fmt.Sprint(n, " nodes"), d, n, api.ErrArg)
		if d.Steps() != 0 || len(d.Names()) != 0 {
			t.Errorf("R2: %d nodes: the disk has changed", n)
		}
		d.Arm(0)
		d.Append("x", nil)
		wantNotOpened(t, "ErrArg goes ahead of ErrDiskDead", d, n, api.ErrArg)
	}
	for n := 1; n <= api.MaxNodes; n++ {
		d := disk.New(1000)
		w := newWorld(n)
		w.boot()
		w.want(t, fmt.Sprint(n, " nodes"), open(t, "an empty disk", d, n))
		wantFile(t, "an empty disk", d, w.records...)
	}
}

func TestOpenDead(t *testing.T) {
	for what, d := range map[string]*disk.Disk{
		"no file":        disk.New(1000),
		"a journal":      onDisk(t, logBytes(openedRecord())),
		"spoilt":         onDisk(t, []byte("spoilt, all of it")),
		"none of these":  onDisk(t, logBytes([]byte{8})),
		"no room either": disk.New(0),
	} {
		d.Arm(0)
		d.Append("x", nil)
		before := d.Names()
		wantNotOpened(t, what, d, 3, api.ErrDiskDead)
		if !slices.Equal(d.Names(), before) {
			t.Errorf("R2: %s: a dead disk has changed", what)
		}
	}
}

// What Open does on a disk, and nothing further where it is refused.
func TestOpenSteps(t *testing.T) {
	d := disk.New(1000)
	open(t, "an empty disk", d, 2)
	if d.Steps() != 4 { // the file comes, and lasts; record 1 comes, and lasts
		t.Error("P19.1: an empty disk: steps:", d.Steps())
	}
	open(t, "anew", d, 2)
	if d.Steps() != 7 { // the file lasts; record 1 comes, and lasts
		t.Error("P19.1: anew: steps:", d.Steps())
	}
	b := file(t, d)
	wantErrno(t, "a torn one", d.Append("journal", []byte{0, 0, 0}), api.OK)
	open(t, "torn", d, 2)
	if d.Steps() != 12 || !bytes.HasPrefix(file(t, d), b) || len(file(t, d)) != len(b)+15 {
		t.Error("P19.1: torn: steps:", d.Steps())
	}
	if got := d.Names(); !slices.Equal(got, []string{"journal"}) {
		t.Error("P19.1: the files:", got)
	}
}

func TestOpenFull(t *testing.T) {
	d := disk.New(14)
	wantNotOpened(t, "a byte too little room for record 1", d, 2, api.ErrDiskFull)
	wantNotOpened(t, "the file is there", d, 2, api.ErrDiskFull)
	if len(file(t, d)) != 0 {
		t.Error("P19.1: something was written")
	}
	d = disk.New(29)
	open(t, "just room enough", d, 2)
	wantNotOpened(t, "a byte too little room for the second one", d, 2, api.ErrDiskFull)
	wantFile(t, "full", d, openedRecord())
}

// The error of redo.Open; and what is torn is left out.
func TestOpenSpoilt(t *testing.T) {
	whole := logBytes(openedRecord(), begunRecord(1))
	for at := range whole {
		d := onDisk(t, whole)
		d.Flip("journal", at, at%8)
		before := file(t, d)
		wantNotOpened(t, fmt.Sprint("a bit of byte ", at, " turned"), d, 2, api.ErrRedoSpoilt)
		if !bytes.Equal(file(t, d), before) {
			t.Error("R2: what is spoilt has changed")
		}
	}
	for n := range whole {
		d := onDisk(t, whole[:n])
		w := newWorld(2)
		if n >= 15 { // the first record's frame is whole
			w.boot()
		}
		w.boot()
		w.want(t, "torn", open(t, "torn", d, 2))
		wantFile(t, "torn", d, w.records...)
	}
}

// One that other files stand beside.
func TestOpenOthers(t *testing.T) {
	d := disk.New(1000)
	for _, n := range []string{"journa", "journal2", "Journal"} {
		wantErrno(t, "a disk", d.Append(n, []byte("x")), api.OK)
	}
	w := newWorld(1)
	w.boot()
	w.want(t, "other files", open(t, "other files", d, 1))
	if len(d.Names()) != 4 {
		t.Error("P19.1: the files:", d.Names())
	}
}

func TestBoot(t *testing.T) {
	d := disk.New(100000)
	w := newWorld(3)
	for range 300 {
		w.boot()
		w.want(t, "once more", open(t, "once more", d, 3))
	}
	wantFile(t, "many", d, w.records...)
	// an earlier journal of the same disk tells what it told
	j := open(t, "one", d, 3)
	open(t, "another one", d, 3)
	if j.Boot() != 301 {
		t.Error("P19.1: Boot is what it was:", j.Boot())
	}
}

// A record 1 fits always, wherever it stands; so does what was appended at once.
func TestOpenAnyFrames(t *testing.T) {
	records := [][]byte{
		begunRecord(1), openedRecord(), openedRecord(), outRecord(2), committedRecord(1, 1, someOps()...), begunRecord(2), abortedRecord(2),
		openedRecord(), begunRecord(3), committedRecord(3, 2), markRecord(1), memberRecord(2), outRecord(0), markRecord(2), begunRecord(4),
	}
	w := newWorld(3)
	w.boots, w.begun, w.open, w.mark = 4, 4, true, 2
	w.members[0] = false
	w.commits = []api.Commit{{Txn: 1, Epoch: 1, Ops: someOps()}, {Txn: 3, Epoch: 2}}
	w.want(t, "records alone", open(t, "records alone", onDisk(t, logBytes(records...)), 3))
	w.want(t, "records together", open(t, "records together", onDisk(t, together(records...)), 3))
	mixed := slices.Concat(together(records[:4]...), logBytes(records[4]), together(), together(records[5:]...))
	w.want(t, "both", open(t, "both", onDisk(t, mixed), 3))
}
