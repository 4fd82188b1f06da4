package encode_test

import (
	"bytes"
	"math/rand/v2"
	"slices"
	"testing"

	"hayloft/api"
	"hayloft/encode"
)

func TestThereAndBack(t *testing.T) {
	r := rand.New(rand.NewPCG(6, 5))
	for range 5000 {
		l := aList(r, 66, r.IntN(2) == 0)
		for _, kind := range kinds {
			b, e := encode.Encode(kind, l)
			if e != api.OK {
				continue
			}
			if got, e := encode.Decode(kind, b, len(l)); e != api.OK || !slices.Equal(got, l) {
				t.Fatalf("P6.5: Decode(%d, %x, %d): %+v, %d, want %+v", kind, b, len(l), got, e, l)
			}
		}
	}
}

// wantSame wants that what Decode takes of b are so many values, and that they are written as b again; it tells whether it took b.
func wantSame(t *testing.T, kind int, b []byte, many int) bool {
	t.Helper()
	l, e := encode.Decode(kind, b, many)
	if e != api.OK {
		wantUnread(t, kind, b, many, api.ErrEncodeForm)
		return false
	}
	if again, e := encode.Encode(kind, l); e != api.OK || len(l) != many || !bytes.Equal(again, b) {
		t.Fatalf("P6.5: Decode(%d, %x, %d): %+v, and that is written %x, %d", kind, b, many, l, again, e)
	}
	return true
}

// All byte strings of at most two bytes, and those of at most five that few bytes make; behind an int's bytes where these come first.
func TestSameBytes(t *testing.T) {
	const few = "\x00\x01\x02\x03\x61\x80\xff"
	for _, kind := range kinds {
		var head []byte
		if kind == api.EncDelta || kind == api.EncBits {
			head = []byte{127, 255, 255, 255, 255, 255, 255, 254}
		}
		taken := 0
		try := func(b ...byte) {
			for many := range 4 {
				if wantSame(t, kind, slices.Concat(head, b), many) {
					taken++
				}
			}
		}
		for x := range 1 << 16 {
			try(byte(x>>8), byte(x))
		}
		all := 1
		for n := range 6 {
			for k := range all {
				b := make([]byte, n)
				for i := range b {
					b[i] = few[k%len(few)]
					k /= len(few)
				}
				try(b...)
			}
			all *= len(few)
		}
		if taken < 10 {
			t.Errorf("kind %d: only %d were taken", kind, taken)
		}
	}
}

// Bytes that were some values', but for one of them.
func TestSameBytesSpoilt(t *testing.T) {
	r := rand.New(rand.NewPCG(6, 6))
	var taken [5]int
	for range 20000 {
		kind := r.IntN(5)
		l := aList(r, 64>>r.IntN(6), kind == api.EncDelta || kind == api.EncBits)
		b, e := encode.Encode(kind, l)
		if e != api.OK {
			t.Fatal("P6.1:", e)
		}
		if len(b) > 0 {
			b[r.IntN(len(b))] = byte(r.IntN(256)) >> r.IntN(8)
		}
		if wantSame(t, kind, b, len(l)) {
			taken[kind]++
		}
	}
	for kind, n := range taken {
		if n == 0 {
			t.Error("nothing was taken of kind", kind)
		}
	}
}

// Bytes of any kind are refused or read in each.
func TestAnyBytes(t *testing.T) {
	r := rand.New(rand.NewPCG(6, 7))
	for range 20000 {
		b := make([]byte, r.IntN(100)>>r.IntN(5))
		for i := range b {
			b[i] = byte(r.Uint32()) >> r.IntN(8)
		}
		for _, kind := range kinds {
			wantSame(t, kind, b, r.IntN(65))
		}
	}
}
