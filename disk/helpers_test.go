package disk_test

import (
	"slices"
	"testing"

	"hayloft/api"
	"hayloft/disk"
)

// wantErrno says that a call answered so.
func wantErrno(t *testing.T, what string, got, want api.Errno) {
	t.Helper()
	if got != want {
		t.Errorf("%s: answers %d, want %d", what, got, want)
	}
}

// wantFile says that a file has these bytes.
func wantFile(t *testing.T, what string, d *disk.Disk, name, want string) {
	t.Helper()
	if b, ok := d.Read(name); !ok || string(b) != want {
		t.Errorf("%s: Read(%q): %q, %v, want %q", what, name, b, ok, want)
	}
}

// wantNoFile says that there is no such file.
func wantNoFile(t *testing.T, what string, d *disk.Disk, name string) {
	t.Helper()
	if b, ok := d.Read(name); ok || len(b) != 0 {
		t.Errorf("%s: Read(%q): %q, %v, want none", what, name, b, ok)
	}
}

// look is all that a disk tells, of what is found behind two crashes too.
type look struct {
	Files, Least, Most []named
	Free, Steps        int
	Dead               bool
}

// named is a file with its bytes.
type named struct{ Name, Bytes string }

// listed is each file of a disk, as Names and Read tell them.
func listed(d *disk.Disk) []named {
	var l []named
	for _, n := range d.Names() {
		b, _ := d.Read(n)
		l = append(l, named{n, string(b)})
	}
	return l
}

// all is a keep that loses nothing.
func all(d *disk.Disk) []int {
	return slices.Repeat([]int{1 << 40}, len(d.Names()))
}

// looked is a disk's look.
func looked(d *disk.Disk) look {
	return look{listed(d), listed(d.Crash(nil)), listed(d.Crash(all(d))), d.Free(), d.Steps(), d.Dead()}
}

// same tells whether two looks are the same.
func same(a, b look) bool {
	return slices.Equal(a.Files, b.Files) && slices.Equal(a.Least, b.Least) && slices.Equal(a.Most, b.Most) && a.Free == b.Free && a.Steps == b.Steps && a.Dead == b.Dead
}

// wantSame says that a disk looks as it did.
func wantSame(t *testing.T, what string, d *disk.Disk, was look) {
	t.Helper()
	if now := looked(d); !same(now, was) {
		t.Errorf("%s: changed: %+v, want %+v", what, now, was)
	}
}

// aDisk has three files: one that lasts in part, one that lasts, one that does not. There are 6 steps, and 88 bytes free.
func aDisk(t *testing.T) *disk.Disk {
	t.Helper()
	d := disk.New(100)
	for i, e := range []api.Errno{d.Append("b", []byte("bcd")), d.Sync("b"), d.Append("b", []byte("ef")), d.Append("a", []byte("1234")), d.Sync("a"), d.Append("c", []byte("xyz"))} {
		if e != api.OK {
			t.Fatalf("P4.2: call %d: %d", i, e)
		}
	}
	return d
}
