package encode_test

import (
	"bytes"
	"slices"
	"testing"

	"hayloft/api"
	"hayloft/encode"
	"hayloft/value"
)

// What is handed in stays as it is, and so does the spare room behind it; nor is that a part of it.
func TestArgumentsStay(t *testing.T) {
	full := append(ints(9, -3, 9, 4), value.Text("spare"), api.Value{Kind: 9})
	kept := slices.Clone(full)
	l := full[:4]
	for _, kind := range kinds {
		b, e := encode.Encode(kind, l)
		if e != api.OK || !encode.Can(kind, l) {
			t.Errorf("P6.1: kind %d: %d", kind, e)
		}
		more := append(slices.Clone(b), 1, 2, 3)
		if got, e := encode.Decode(kind, more[:len(b)], 4); e != api.OK || !slices.Equal(got, l) {
			t.Errorf("P6.2: kind %d: %+v, %d", kind, got, e)
		}
		wantUnread(t, kind, more[:len(b)-1], 4, api.ErrEncodeForm)
		if !bytes.Equal(more, append(slices.Clone(b), 1, 2, 3)) {
			t.Errorf("R5: Decode changed its bytes: %x", more)
		}
	}
	if k := encode.Best(l); k != api.EncDelta {
		t.Error("P6.3:", k)
	}
	if r := encode.Runs(l); len(r) != 4 {
		t.Errorf("P6.4: %+v", r)
	}
	if !slices.Equal(full, kept) {
		t.Errorf("R5: values were changed: %+v", full)
	}
}

// What is read hangs no more on the bytes that it was read from.
func TestReadIsOwn(t *testing.T) {
	l := texts("abc", "abc", "x", "")
	for _, kind := range []int{api.EncPlain, api.EncRuns, api.EncDict} {
		b, _ := encode.Encode(kind, l)
		got, _ := encode.Decode(kind, b, len(l))
		spoil(b)
		if !slices.Equal(got, l) {
			t.Errorf("R5: kind %d: %+v", kind, got)
		}
	}
}

func spoil(b []byte) {
	b = b[:cap(b)]
	for i := range b {
		b[i] ^= 255
	}
}

// No answer shows what is written into another one, its spare room too.
func TestAnswersAreNew(t *testing.T) {
	l := ints(5, 5, 6, -7)
	for _, kind := range kinds {
		first, _ := encode.Encode(kind, l)
		want := slices.Clone(first)
		second, _ := encode.Encode(kind, l)
		spoil(second)
		third, _ := encode.Encode(kind, l)
		if !bytes.Equal(first, want) || !bytes.Equal(third, want) {
			t.Errorf("R5: kind %d: %x, %x, want %x", kind, first, third, want)
		}
		one, _ := encode.Decode(kind, want, 4)
		two, _ := encode.Decode(kind, want, 4)
		clear(two[:cap(two)])
		three, _ := encode.Decode(kind, want, 4)
		if !slices.Equal(one, l) || !slices.Equal(three, l) {
			t.Errorf("R5: kind %d: %+v, %+v", kind, one, three)
		}
	}
	one := encode.Runs(l)
	two := encode.Runs(l)
	clear(two[:cap(two)])
	if three := encode.Runs(l); len(one) != 3 || !slices.Equal(one, three) || one[0] != (encode.Run{Many: 2, Value: value.Int(5)}) {
		t.Errorf("R5: %+v, %+v", one, three)
	}
}
