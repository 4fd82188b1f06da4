package block_test

import (
	"bytes"
	"math/rand/v2"
	"slices"
	"testing"

	"hayloft/api"
	"hayloft/block"
	"hayloft/encode"
	"hayloft/value"
)

func TestThereAndBack(t *testing.T) {
	r := rand.New(rand.NewPCG(7, 5))
	for range 3000 {
		l := aList(r, 66, r.IntN(2) == 0)
		for kind := -1; kind <= api.EncBits; kind++ {
			b, e := block.Write(kind, l)
			if e != api.OK {
				continue
			}
			if got, size, e := block.Read(b); e != api.OK || size != len(b) || !slices.Equal(got, l) {
				t.Fatalf("P7.6: Read(%x): %+v, %d, %d, want %+v", b, got, size, e, l)
			}
		}
	}
}

// wantSame wants that what Read takes of b is written as the same bytes; it tells whether it took any.
func wantSame(t *testing.T, b []byte) bool {
	t.Helper()
	l, size, e := block.Read(b)
	i, f := block.Head(b)
	if e != api.OK {
		if e != api.ErrBlockForm && (e != api.ErrBlockSum || f != api.OK) || size != 0 || len(l) > 0 {
			t.Fatalf("P7.3: Read(%x): %+v, %d, %d", b, l, size, e)
		}
		return false
	}
	again, e := block.Write(i.Kind, l)
	if e != api.OK || f != api.OK || size != i.Bytes || len(l) != i.Many || !bytes.Equal(again, b[:size]) {
		t.Fatalf("P7.6: Read(%x): %+v, %d, and that is written %x, %d", b, l, size, again, e)
	}
	return true
}

// Blocks but for one byte, with the sum mended.
func TestSameBytesSpoilt(t *testing.T) {
	r := rand.New(rand.NewPCG(7, 6))
	var taken [5]int
	for range 30000 {
		kind := r.IntN(5)
		l := aList(r, 64>>r.IntN(7), kind == api.EncDelta || kind == api.EncBits)
		b := write(t, kind, l)
		front := b[:len(b)-4]
		front[r.IntN(len(front))] = byte(r.IntN(256)) >> r.IntN(8)
		if wantSame(t, append(seal(front), 1, 2, 3)) {
			taken[kind]++
		}
	}
	for kind, n := range taken {
		if n == 0 {
			t.Error("nothing was taken of kind", kind)
		}
	}
}

// Whatever the bytes are, all calls end.
func TestAnyBytes(t *testing.T) {
	r := rand.New(rand.NewPCG(7, 7))
	for range 50000 {
		b := make([]byte, r.IntN(200)>>r.IntN(5))
		for i := range b {
			b[i] = byte(r.Uint32()) >> r.IntN(8)
		}
		if len(b) > 7 && r.IntN(2) == 0 { // a head that is nearly one
			copy(b, []byte{byte(r.IntN(5)), byte(1 + r.IntN(4)), byte(r.IntN(2)), byte(r.IntN(2)), byte(r.IntN(2)), 0, byte(r.IntN(9))})
		}
		wantSame(t, b)
		wantSame(t, seal(b))
		gather(t, b)
	}
}

// All small blocks: what is taken is written as the same bytes.
func TestSmallBlocks(t *testing.T) {
	taken := 0
	ends := [][]byte{{0}, {1, 0}, {1, 1}, {3, 0}}
	for kind := range 5 {
		for many := range 4 {
			for nulls := range many + 1 {
				for _, least := range ends {
					for _, greatest := range ends {
						for x := range 1 << 9 { // of up to four numbers from 0 to 3, and a 1 ahead of them
							var encoded []byte
							for ; x > 1; x >>= 2 {
								encoded = append(encoded, byte(x&3))
							}
							if wantSame(t, lay(kind, many, nulls, least, greatest, encoded)) {
								taken++
							}
						}
					}
				}
			}
		}
	}
	if taken < 20 {
		t.Error("only so many were taken:", taken)
	}
}

// isTrue is what a term asks of a value (P14.2).
func isTrue(term api.Term, v api.Value) bool {
	switch term.Op {
	case api.TermNull:
		return v.Kind == api.KindNull
	case api.TermFull:
		return v.Kind != api.KindNull
	}
	if v.Kind == api.KindNull || term.Value.Kind == api.KindNull {
		return false
	}
	c := value.Compare(v, term.Value)
	switch term.Op {
	case api.TermEqual:
		return c == 0
	case api.TermUnlike:
		return c != 0
	case api.TermBelow:
		return c < 0
	case api.TermAtMost:
		return c <= 0
	case api.TermAbove:
		return c > 0
	case api.TermAtLeast:
		return c >= 0
	}
	return false
}

// A block whose head says no has no value of which the term is true.
func TestMayMissesNothing(t *testing.T) {
	r := rand.New(rand.NewPCG(7, 8))
	var no, yes [10]int
	for range 4000 {
		l := aList(r, 8, r.IntN(2) == 0)
		i, e := block.Head(write(t, encode.Best(l), l))
		if e != api.OK {
			t.Fatal("P7.2:", e)
		}
		others := append(aList(r, 8, r.IntN(2) == 0), l...)
		for _, v := range append(others, value.Null(), api.Value{Kind: 9}) {
			for op := -1; op <= 8; op++ {
				term := api.Term{Op: op, Value: v}
				may := block.May(i, term)
				if !may {
					no[op+1]++
				}
				if slices.ContainsFunc(l, func(v api.Value) bool { return isTrue(term, v) }) {
					yes[op+1]++
					if !may {
						t.Fatalf("P7.6: %+v: May(%+v, %+v) says no", l, i, term)
					}
				}
			}
		}
	}
	for op := range 8 {
		if no[op+1] == 0 || yes[op+1] == 0 {
			t.Errorf("term %d: %d times no, %d times true", op, no[op+1], yes[op+1])
		}
	}
}
