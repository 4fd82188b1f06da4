package disk_test

import (
	"math"
	"slices"
	"strings"
	"testing"

	"hayloft/api"
	"hayloft/disk"
)

func TestNew(t *testing.T) {
	for _, k := range []struct{ room, free int }{{10, 10}, {1, 1}, {0, 0}, {-1, 0}, {math.MinInt, 0}, {math.MaxInt, math.MaxInt}} {
		d := disk.New(k.room)
		if d.Free() != k.free || d.Steps() != 0 || d.Dead() || len(d.Names()) != 0 {
			t.Errorf("P4.1: New(%d): Free %d, Steps %d, Dead %v, Names %q", k.room, d.Free(), d.Steps(), d.Dead(), d.Names())
		}
		for range 5 {
			wantErrno(t, "P4.1: a new disk is not armed", d.Append("a", nil), api.OK)
		}
	}
}

// wrongNames are no file's names.
func wrongNames() []string {
	l := []string{"", strings.Repeat("a", api.MaxFile+1), strings.Repeat("a", 1000), "é", "a b", "\xff"}
	for b := range 256 {
		if b < 33 || b > 126 {
			l = append(l, string([]byte{byte(b)}), string([]byte{'a', byte(b)}), string([]byte{byte(b), 'a'}))
		}
	}
	return l
}

func TestNames(t *testing.T) {
	for b := 33; b <= 126; b++ {
		name := string([]byte{byte(b)})
		d := disk.New(1)
		wantErrno(t, "P4.2: Append to "+name, d.Append(name, []byte("1")), api.OK)
		wantErrno(t, "P4.2: Rename to "+name, d.Rename(name, "x"+name), api.OK)
	}
	d := disk.New(1)
	long := strings.Repeat("~", api.MaxFile)
	wantErrno(t, "P4.2: Append to a long name", d.Append(long, []byte("1")), api.OK)
	wantErrno(t, "P4.2: Rename from a long name", d.Rename(long, "!"), api.OK)
	wantErrno(t, "P4.2: Rename to a long name", d.Rename("!", long), api.OK)
	was := looked(d)
	for _, name := range wrongNames() {
		wantErrno(t, "P4.2: Append to a wrong name", d.Append(name, nil), api.ErrDiskName)
		wantErrno(t, "P4.2: Rename to a wrong name", d.Rename(long, name), api.ErrDiskName)
		wantErrno(t, "P4.2: Sync of a wrong name", d.Sync(name), api.ErrDiskNone)
		wantErrno(t, "P4.2: Truncate of a wrong name", d.Truncate(name, 0), api.ErrDiskNone)
		wantErrno(t, "P4.2: Rename from a wrong name", d.Rename(name, "a"), api.ErrDiskNone)
		wantErrno(t, "P4.2: Remove of a wrong name", d.Remove(name), api.ErrDiskNone)
		wantNoFile(t, "P4.3: a wrong name", d, name)
		if d.Flip(name, 0, 0) {
			t.Errorf("P4.6: Flip(%q)", name)
		}
		wantSame(t, "R2: a wrong name", d, was)
	}
}

func TestAppend(t *testing.T) {
	d := disk.New(5)
	wantErrno(t, "P4.2: Append of no byte", d.Append("a", nil), api.OK)
	wantFile(t, "P4.2: a file without bytes is there", d, "a", "")
	wantErrno(t, "P4.2: Append", d.Append("a", []byte("123")), api.OK)
	wantErrno(t, "P4.2: Append of no byte", d.Append("a", []byte{}), api.OK)
	wantErrno(t, "P4.2: Append behind it", d.Append("a", []byte("4")), api.OK)
	wantFile(t, "P4.2: behind the end", d, "a", "1234")
	was := looked(d)
	wantErrno(t, "P4.2: Append to a full disk", d.Append("b", []byte("56")), api.ErrDiskFull)
	wantErrno(t, "P4.2: Append to a full disk", d.Append("a", []byte("56")), api.ErrDiskFull)
	wantErrno(t, "P4.2: a wrong name is told ahead of a full disk", d.Append("", []byte("56")), api.ErrDiskName)
	wantSame(t, "R2: Append refused", d, was)
	wantErrno(t, "P4.2: Append of as many as there is room", d.Append("b", []byte("5")), api.OK)
	wantErrno(t, "P4.2: Append of no byte to a full disk", d.Append("c", nil), api.OK)
	if d.Free() != 0 || d.Steps() != 6 || !slices.Equal(d.Names(), []string{"a", "b", "c"}) {
		t.Error("P4.3: Free, Steps, Names:", d.Free(), d.Steps(), d.Names())
	}
	x := d.Crash(nil)
	for _, name := range []string{"a", "b", "c"} {
		wantFile(t, "P4.2: what was appended does not last yet", x, name, "")
	}
}

func TestSync(t *testing.T) {
	d := aDisk(t)
	wantErrno(t, "P4.2: Sync", d.Sync("b"), api.OK)
	wantFile(t, "P4.2: synced bytes last", d.Crash(nil), "b", "bcdef")
	wantFile(t, "P4.2: Sync is of one file", d.Crash(nil), "c", "")
	wantErrno(t, "P4.2: Sync of what lasts", d.Sync("a"), api.OK)
	wantFile(t, "P4.2: it lasts", d.Crash(nil), "a", "1234")
	was := looked(d)
	wantErrno(t, "P4.2: Sync of no file", d.Sync("d"), api.ErrDiskNone)
	wantSame(t, "R2: Sync refused", d, was)
	if d.Steps() != 8 {
		t.Error("P4.3: Steps:", d.Steps())
	}
}

func TestTruncate(t *testing.T) {
	for _, k := range []struct {
		n          int
		now, least string
	}{{5, "bcdef", "bcd"}, {4, "bcde", "bcd"}, {3, "bcd", "bcd"}, {2, "bc", "bc"}, {0, "", ""}} {
		d := aDisk(t)
		wantErrno(t, "P4.2: Truncate", d.Truncate("b", k.n), api.OK)
		wantFile(t, "P4.2: the first bytes", d, "b", k.now)
		wantFile(t, "P4.2: those of them that lasted last", d.Crash(nil), "b", k.least)
		wantFile(t, "P4.2: those that did not may be lost", d.Crash([]int{0, 9}), "b", k.now)
		if d.Free() != 93-k.n || d.Steps() != 7 {
			t.Errorf("P4.3: Truncate to %d: Free %d, Steps %d", k.n, d.Free(), d.Steps())
		}
		wantErrno(t, "P4.2: Append behind a cut", d.Append("b", []byte("X")), api.OK)
		wantFile(t, "P4.2: behind a cut", d, "b", k.now+"X")
		wantFile(t, "P4.2: what stands behind a cut does not last", d.Crash(nil), "b", k.least)
	}
	d := aDisk(t)
	was := looked(d)
	for _, n := range []int{-1, 6, math.MinInt, math.MaxInt} {
		wantErrno(t, "P4.2: Truncate to what there is not", d.Truncate("b", n), api.ErrDiskRange)
		wantErrno(t, "P4.2: Truncate of no file", d.Truncate("d", n), api.ErrDiskNone)
	}
	wantSame(t, "R2: Truncate refused", d, was)
}

func TestRename(t *testing.T) {
	d := aDisk(t)
	wantErrno(t, "P4.2: Rename", d.Rename("b", "z"), api.OK)
	wantNoFile(t, "P4.2: the old name", d, "b")
	wantFile(t, "P4.2: the new name", d, "z", "bcdef")
	wantFile(t, "P4.2: the bytes last as they did", d.Crash(nil), "z", "bcd")
	wantNoFile(t, "P4.2: Rename lasts at once", d.Crash(nil), "b")
	wantErrno(t, "P4.2: Rename onto another file", d.Rename("z", "a"), api.OK)
	wantFile(t, "P4.2: onto another file", d, "a", "bcdef")
	wantFile(t, "P4.2: the file that was called so is gone", d.Crash(nil), "a", "bcd")
	if d.Free() != 92 || d.Steps() != 8 || !slices.Equal(d.Names(), []string{"a", "c"}) {
		t.Error("P4.3: Free, Steps, Names:", d.Free(), d.Steps(), d.Names())
	}

	d = aDisk(t)
	was := looked(d)
	was.Steps++
	wantErrno(t, "P4.2: Rename to the same name", d.Rename("b", "b"), api.OK)
	wantSame(t, "P4.2: Rename to the same name", d, was)
	wantErrno(t, "P4.2: Rename of no file", d.Rename("d", "b"), api.ErrDiskNone)
	wantErrno(t, "P4.2: Rename of no file to the same name", d.Rename("d", "d"), api.ErrDiskNone)
	wantErrno(t, "P4.2: no file is told ahead of a wrong name", d.Rename("d", ""), api.ErrDiskNone)
	wantSame(t, "R2: Rename refused", d, was)
}

func TestRemove(t *testing.T) {
	d := aDisk(t)
	wantErrno(t, "P4.2: Remove", d.Remove("b"), api.OK)
	wantNoFile(t, "P4.2: Remove", d, "b")
	wantNoFile(t, "P4.2: Remove lasts at once", d.Crash(all(d)), "b")
	if d.Free() != 93 || d.Steps() != 7 || !slices.Equal(d.Names(), []string{"a", "c"}) {
		t.Error("P4.3: Free, Steps, Names:", d.Free(), d.Steps(), d.Names())
	}
	was := looked(d)
	wantErrno(t, "P4.2: Remove of no file", d.Remove("b"), api.ErrDiskNone)
	wantSame(t, "R2: Remove refused", d, was)
	wantErrno(t, "P4.2: Append to a name that was removed", d.Append("b", []byte("n")), api.OK)
	wantFile(t, "P4.2: a new file has nothing of the old one", d, "b", "n")
	wantFile(t, "P4.2: nothing of a new file lasts", d.Crash(nil), "b", "")
}

func TestRead(t *testing.T) {
	d := aDisk(t)
	wantFile(t, "P4.3: lasting or not", d, "b", "bcdef")
	wantNoFile(t, "P4.3: no file", d, "d")
	wantErrno(t, "P4.2: Append", d.Append("B", nil), api.OK)
	wantErrno(t, "P4.2: Append", d.Append("a~", nil), api.OK)
	wantErrno(t, "P4.2: Append", d.Append("aa", nil), api.OK)
	wantErrno(t, "P4.2: Append", d.Append("!", nil), api.OK)
	if l := d.Names(); !slices.Equal(l, []string{"!", "B", "a", "aa", "a~", "b", "c"}) {
		t.Errorf("P4.3: Names: %q", l)
	}
	if d.Free() != 88 || d.Steps() != 10 {
		t.Error("P4.3: Free, Steps:", d.Free(), d.Steps())
	}
}
