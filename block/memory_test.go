package block_test

import (
	"bytes"
	"slices"
	"testing"

	"hayloft/api"
	"hayloft/block"
	"hayloft/value"
)

func spoil(b []byte) {
	b = b[:cap(b)]
	for i := range b {
		b[i] ^= 255
	}
}

// What is handed in stays as it is, and so does the spare room behind it; nor is that a part of it.
func TestArgumentsStay(t *testing.T) {
	full := append(ints(9, -3, 9, 4), value.Text("spare"), api.Value{Kind: 9})
	kept := slices.Clone(full)
	l := full[:4]
	for _, kind := range append([]int{-1}, kinds...) {
		b := write(t, kind, l)
		more := append(slices.Clone(b), b...)
		room := slices.Clone(more)
		wantValues(t, more[:len(b)], l, len(b))
		wantHeadless(t, "cut", more[:len(b)-1])
		if got := gather(t, more[:len(b)]); !slices.Equal(got, l) {
			t.Errorf("P7.4: spare room is read: %+v", got)
		}
		if !bytes.Equal(more, room) {
			t.Errorf("R5: bytes were changed: %x", more)
		}
	}
	if !slices.Equal(full, kept) {
		t.Errorf("R5: values were changed: %+v", full)
	}
}

// What is read hangs no more on the bytes that it was read from.
func TestReadIsOwn(t *testing.T) {
	l := texts("abc", "abc", "x", "")
	for _, kind := range []int{api.EncPlain, api.EncRuns, api.EncDict} {
		b := write(t, kind, l)
		head, _ := block.Head(b)
		got, _, _ := block.Read(b)
		spoil(b)
		if !slices.Equal(got, l) || head.Min != value.Text("") || head.Max != value.Text("x") {
			t.Errorf("R5: kind %d: %+v, %+v", kind, got, head)
		}
	}
}

// An iterator has bytes of its own: what is written over those that it was made of, ahead of a range or within it, is not seen.
func TestAllKeepsNothing(t *testing.T) {
	blocks, l := three(t)
	b := slices.Concat(blocks...)
	seq := block.All(b)
	clear(b)
	for range 2 {
		var got []api.Value
		for _, v := range seq {
			got = append(got, v)
			spoil(b)
		}
		if !slices.Equal(got, l) {
			t.Errorf("R5: %+v, want %+v", got, l)
		}
	}
}

// No answer shows what is written into another one, its spare room too.
func TestAnswersAreNew(t *testing.T) {
	l := ints(5, 5, 6, -7)
	for _, kind := range append([]int{-1}, kinds...) {
		first := write(t, kind, l)
		want := slices.Clone(first)
		spoil(write(t, kind, l))
		if third := write(t, kind, l); !bytes.Equal(first, want) || !bytes.Equal(third, want) {
			t.Errorf("R5: kind %d: %x, %x, want %x", kind, first, third, want)
		}
		one, _, _ := block.Read(want)
		two, _, _ := block.Read(want)
		clear(two[:cap(two)])
		three, _, _ := block.Read(want)
		if !slices.Equal(one, l) || !slices.Equal(three, l) {
			t.Errorf("R5: kind %d: %+v, %+v", kind, one, three)
		}
	}
}
