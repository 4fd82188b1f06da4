package redo_test

import (
	"bytes"
	"fmt"
	"math/rand/v2"
	"slices"
	"testing"

	"hayloft/api"
	"hayloft/disk"
	"hayloft/redo"
)

// wantFound wants that what is found opens, and has what was acknowledged, or that and all of what was tried last.
func wantFound(t *testing.T, what string, d *disk.Disk, done, tried [][]byte) [][]byte {
	t.Helper()
	got := told(t, open(t, what, d.Clone()))
	if !alike(got, done) && !alike(got, slices.Concat(done, tried)) {
		t.Fatalf("P9.7: %s: %q, want %q, perhaps with %q", what, got, done, tried)
	}
	return got
}

// wantReopened lets each Open of what is found die at each of its steps, and each beginning of what does not last survive that, so many times over.
func wantReopened(t *testing.T, what string, d *disk.Disk, done, tried [][]byte, deep int) {
	t.Helper()
	found := wantFound(t, what, d, done, tried)
	if deep == 0 {
		return
	}
	for at := range 3 {
		x := d.Clone()
		x.Arm(at)
		l, e := redo.Open(x, "r")
		if e == api.OK && !alike(told(t, l), found) {
			t.Fatalf("P9.7: %s: opened twice: %q, want %q", what, told(t, l), found)
		}
		if e != api.OK && (e != api.ErrDiskDead || l != nil) {
			t.Fatalf("P9.7: %s: Open that dies at %d: %v, %d", what, at, l != nil, e)
		}
		// None of it may be lost behind an Open that answered OK, nor come back.
		most, then := found, [][]byte(nil)
		if e != api.OK {
			most, then = done, tried
		}
		for keep := range 3 {
			wantReopened(t, fmt.Sprint(what, ", Open dies at ", at, ", keeps ", keep), x.Crash([]int{keep * 1000}), most, then, deep-1)
		}
	}
}

// Appends die at each step; each beginning of what did not last survives; Opens die too.
func TestDiesAnywhere(t *testing.T) {
	tries := [][][]byte{list("a"), list("bcd", ""), {nil}, list("e", "f", "g"), list("h")}
	for at := range 2*len(tries) + 1 {
		d := disk.New(1000)
		l := create(t, d)
		d.Arm(at)
		var done, tried [][]byte
		for _, more := range tries {
			if e := l.Append(more...); e == api.OK {
				done = append(done, more...)
			} else if tried == nil {
				tried = more
				wantErrno(t, "Append that dies", e, api.ErrDiskDead)
			}
		}
		if d.Dead() != (at < 2*len(tries)) || alike(done, slices.Concat(tries...)) == d.Dead() {
			t.Fatal("P9.5: dead:", at, d.Dead())
		}
		wantLog(t, "the log itself", l, done, l.Size())
		for keep := range 20 {
			wantReopened(t, fmt.Sprint("dies at ", at, ", keeps ", keep), d.Crash([]int{keep}), done, tried, 2)
		}
	}
}

// How many of the bytes survive decides just this: all of them, and the records are there; fewer, and none of them is.
func TestAsAWhole(t *testing.T) {
	more := list("b", "", "cd")
	size := len(model(more))
	for at := range 2 {
		d := disk.New(1000)
		l := create(t, d)
		wantErrno(t, "Append", l.Append([]byte("a")), api.OK)
		d.Arm(at)
		wantErrno(t, "Append that dies", l.Append(more...), api.ErrDiskDead)
		for keep := range size + 1 {
			want, whole := list("a"), 15
			if keep == size {
				want, whole = append(want, more...), 15+size
			}
			x := d.Crash([]int{keep})
			wantLog(t, fmt.Sprint("keeps ", keep), open(t, "found", x), want, whole)
			if n := len(file(t, x)); n != whole {
				t.Errorf("P9.4: keeps %d: the file has %d bytes, want %d", keep, n, whole)
			}
		}
	}
}

// A whole life: a log is appended to, dies, is opened, dies while it is opened, goes on.
func TestLives(t *testing.T) {
	for seed := range uint64(300) {
		r := rand.New(rand.NewPCG(9, seed))
		d := disk.New(2000)
		l := create(t, d)
		var done [][]byte
		for range 30 {
			if r.IntN(3) == 0 {
				d.Arm(r.IntN(6))
			}
			more := someRecords(r, 3)
			e := l.Append(more...)
			if e == api.OK {
				done = append(done, more...)
			}
			wantLog(t, "a life", l, done, l.Size())
			if e != api.ErrDiskDead {
				continue
			}
			for tries := 0; ; tries++ {
				d = d.Crash([]int{r.IntN(80)})
				if tries < 3 {
					d.Arm(r.IntN(3))
				}
				if l, e = redo.Open(d, "r"); e == api.OK {
					break
				}
				if e != api.ErrDiskDead || tries == 3 {
					t.Fatalf("P9.7: seed %d: Open: %d", seed, e)
				}
			}
			got := told(t, l)
			if !alike(got, done) && !alike(got, slices.Concat(done, more)) {
				t.Fatalf("P9.7: seed %d: %d records, want %d, or %d more", seed, len(got), len(done), len(more))
			}
			done = got
			if b := lasts(t, d); len(b) != l.Size() || !bytes.Equal(b, file(t, d)) {
				t.Fatalf("P9.4: seed %d: %d bytes last, want %d", seed, len(b), l.Size())
			}
		}
	}
}

// P9.8: whatever the last call was, one bit that is turned is found.
func TestOneBit(t *testing.T) {
	long := bytes.Repeat([]byte("z"), 300)
	lives := map[string]func(d *disk.Disk){
		"one Append":   func(d *disk.Disk) { create(t, d).Append([]byte("a")) },
		"two":          func(d *disk.Disk) { l := create(t, d); l.Append([]byte("a")); l.Append([]byte("b"), nil) },
		"nothing":      func(d *disk.Disk) { create(t, d).Append(nil) },
		"a long one":   func(d *disk.Disk) { create(t, d).Append(long) },
		"many":         func(d *disk.Disk) { create(t, d).Append(make([][]byte, 253)...) },
		"opened":       func(d *disk.Disk) { create(t, d).Append([]byte("a")); open(t, "opened", d) },
		"torn, opened": func(d *disk.Disk) { d.Append("r", append(model(list("a")), 0, 0, 0)); open(t, "torn", d) },
		"opened, and one more": func(d *disk.Disk) {
			create(t, d).Append([]byte("a"))
			open(t, "opened", d).Append([]byte("c"))
		},
	}
	for what, live := range lives {
		d := disk.New(2000)
		live(d)
		n := len(file(t, d))
		if n == 0 {
			t.Fatalf("%s: an empty file", what)
		}
		for at := range n {
			for bit := range 8 {
				x := d.Clone()
				if !x.Flip("r", at, bit) {
					t.Fatal("Flip")
				}
				wantNotOpened(t, fmt.Sprintf("P9.8: %s: bit %d of byte %d", what, bit, at), x, api.ErrRedoSpoilt)
			}
		}
	}
}
