package rosfile_test

import (
	"bytes"
	"math/rand/v2"
	"slices"
	"testing"

	"hayloft/api"
	"hayloft/rosfile"
	"hayloft/value"
)

func spoil(b []byte) {
	b = b[:cap(b)]
	for i := range b {
		b[i] ^= 255
	}
}

// spoilVersions writes over all of l, its rows, and the spare room of both.
func spoilVersions(l []api.Version) {
	l = l[:cap(l)]
	for i := range l {
		row := l[i].Row[:cap(l[i].Row)]
		for n := range row {
			row[n] = value.Text("spoilt")
		}
		l[i] = gone(9, 9, 9, value.Text("other"))
	}
}

// What is handed in stays as it is, and so does the spare room behind it; nor is that a part of it.
func TestArgumentsStay(t *testing.T) {
	sort, kinds := []int{1, 0, 9, 9}, []int{3, 1, 2, 0}
	values := append(ints(5, 6, 1, 2), value.Text("spare"), api.Value{Kind: 9})
	full := []api.Version{ver(3, 0, values[:2]...), ver(4, 0, values[2:4]...), ver(0, 0), ver(0, 0)}
	keptValues, keptFull := slices.Clone(values), deep(full)
	l := full[:2]
	b := write(t, 2, sort[:2], kinds[:1], l)
	if !bytes.Equal(b, model(t, 2, []int{1, 0}, []int{3}, []api.Version{full[1], full[0]})) {
		t.Errorf("R5: spare room is written: %x", b)
	}
	if got := rosfile.Sorted(sort[:2], l); len(got) != 2 {
		t.Errorf("R5: spare room is sorted: %+v", got)
	}
	if !slices.Equal(sort, []int{1, 0, 9, 9}) || !slices.Equal(kinds, []int{3, 1, 2, 0}) || !slices.Equal(values, keptValues) || !alike(full, keptFull) {
		t.Errorf("R5: changed: %v, %v, %+v, %+v", sort, kinds, values, full)
	}

	more := append(slices.Clone(b), "behind"...)
	f := read(t, more[:len(b)])
	wantUnread(t, "cut", more[:len(b)-1])
	if !bytes.Equal(more, append(slices.Clone(b), "behind"...)) {
		t.Errorf("R5: bytes were changed: %x", more)
	}
	key := append(ints(2, 1), value.Text("spare"))
	for range f.From(key[:1]) {
		break
	}
	for range f.From(key[:2]) {
		break
	}
	if !slices.Equal(key, append(ints(2, 1), value.Text("spare"))) {
		t.Errorf("R5: a key was changed: %+v", key)
	}
}

// A file has bytes of its own; a range hangs neither on the bytes nor on the key that it was asked with.
func TestFileKeepsNothing(t *testing.T) {
	sort := []int{1, 0}
	l := ordered(sort, versionsOf(rand.New(rand.NewPCG(8, 12)), 2, 90))
	b := write(t, 2, sort, nil, l)
	f := read(t, b)
	spoil(b)
	wantFile(t, f, 2, sort, l)
	place := 40
	for l[place].Row[1] == l[place-1].Row[1] {
		place--
	}
	key := list(l[place].Row[1])
	seq := f.From(key)
	key[0] = value.Null()
	wantVersions(t, "From, its key changed ahead of the range", seq, l[place:])
	for range seq {
		key[0] = value.Text("z")
	}
	wantVersions(t, "From, its key changed in a range", seq, l[place:])
}

// No answer shows what is written into another one, its spare room too.
func TestAnswersAreNew(t *testing.T) {
	sort := []int{0}
	l := ordered(sort, versionsOf(rand.New(rand.NewPCG(8, 13)), 3, 70))
	first := write(t, 3, sort, nil, l)
	want := slices.Clone(first)
	spoil(write(t, 3, sort, nil, l))
	if third := write(t, 3, sort, nil, l); !bytes.Equal(first, want) || !bytes.Equal(third, want) {
		t.Error("R5: Write")
	}
	f := read(t, want)
	spare := f.Sort()
	clear(spare[:cap(spare)])
	for i := range spare {
		spare[i] = 9
	}
	for range 2 {
		for v := range f.All() {
			spoilVersions([]api.Version{v})
		}
		for v := range f.From(list(value.Null())) {
			spoilVersions([]api.Version{v})
		}
		wantFile(t, f, 3, sort, l)
		wantVersions(t, "From", f.From(nil), l)
	}
}

// No two rows of an answer share memory, nor with what was handed in, though rows there share theirs.
func TestSortedIsNew(t *testing.T) {
	row := append(ints(1, 2, 3), ints(9, 9, 9)...)[:3]
	full := []api.Version{ver(3, 0, row...), ver(1, 0, row...), ver(2, 0, row...), ver(4, 0), ver(8, 8, row...), ver(8, 8, row...)}
	l := full[:4]
	kept := deep(full)
	want := deep([]api.Version{l[3], l[1], l[2], l[0]})
	got := rosfile.Sorted([]int{0}, l)
	if !alike(got, want) {
		t.Fatalf("P8.1: %+v", got)
	}
	for i := range got {
		spoilVersions(got[i : i+1 : i+1])
		if !alike(got[i+1:], want[i+1:]) || !alike(full, kept) {
			t.Fatalf("R5: behind a change at %d: %+v, %+v", i, got, full)
		}
	}
	spoilVersions(got)
	if again := rosfile.Sorted([]int{0}, l); !alike(again, want) || !alike(full, kept) {
		t.Errorf("R5: %+v, %+v", again, full)
	}
	if spare := row[:6]; !slices.Equal(spare, ints(1, 2, 3, 9, 9, 9)) {
		t.Errorf("R5: spare room: %+v", spare)
	}
	other := rosfile.Sorted(nil, l)
	spoilVersions(l)
	if !alike(other, []api.Version{kept[1], kept[2], kept[0], kept[3]}) {
		t.Errorf("R5: what was handed in is kept: %+v", other)
	}
}
