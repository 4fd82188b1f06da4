package disk_test

import (
	"slices"
	"testing"

	"hayloft/api"
	"hayloft/disk"
)

// The chapter's examples, as they stand there.
func TestExamples(t *testing.T) {
	d := disk.New(10)
	wantErrno(t, "Append(a, 1 2 3)", d.Append("a", []byte{1, 2, 3}), api.OK)
	wantErrno(t, "Sync(a)", d.Sync("a"), api.OK)
	wantErrno(t, "Append(a, 4 5)", d.Append("a", []byte{4, 5}), api.OK)
	wantFile(t, "two appends", d, "a", "\x01\x02\x03\x04\x05")
	if n := d.Free(); n != 5 {
		t.Error("Free:", n)
	}

	wantFile(t, "Crash(none)", d.Crash(nil), "a", "\x01\x02\x03")
	wantFile(t, "Crash(1)", d.Crash([]int{1}), "a", "\x01\x02\x03\x04")
	wantFile(t, "Crash(9)", d.Crash([]int{9}), "a", "\x01\x02\x03\x04\x05")

	wantErrno(t, "Append(b, six bytes)", d.Append("b", make([]byte, 6)), api.ErrDiskFull)
	wantErrno(t, "Append(empty, none)", d.Append("", nil), api.ErrDiskName)
	wantErrno(t, "Sync(b)", d.Sync("b"), api.ErrDiskNone)

	wantErrno(t, "Truncate(a, 2)", d.Truncate("a", 2), api.OK)
	wantErrno(t, "Truncate(a, 3)", d.Truncate("a", 3), api.ErrDiskRange)
	wantFile(t, "Crash(none) of what was truncated", d.Crash(nil), "a", "\x01\x02")

	wantErrno(t, "Rename(a, c)", d.Rename("a", "c"), api.OK)
	if l := d.Names(); !slices.Equal(l, []string{"c"}) || d.Steps() != 5 {
		t.Error("Names, Steps:", l, d.Steps())
	}

	d.Arm(1)
	wantErrno(t, "Append(c, 9)", d.Append("c", []byte{9}), api.OK)
	wantErrno(t, "Sync(c), armed", d.Sync("c"), api.ErrDiskDead)
	if !d.Dead() {
		t.Error("Dead: false")
	}
	wantErrno(t, "Append(c, 9), dead", d.Append("c", []byte{9}), api.ErrDiskDead)
	if n := d.Steps(); n != 7 {
		t.Error("Steps:", n)
	}
}
