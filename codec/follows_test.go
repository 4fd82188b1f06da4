package codec_test

import (
	"bytes"
	"fmt"
	"math"
	"math/rand/v2"
	"reflect"
	"testing"

	"hayloft/api"
	"hayloft/codec"
)

// thing is what one call writes: its kind says which call.
type thing struct {
	kind  int
	n     uint64
	b     []byte
	parts []thing // of a list: all of one kind
}

const (
	byteThing = iota
	wordThing
	longThing
	varThing
	rawThing
	textThing
	listThing
	itemsThing
	kinds
)

func (x thing) put(w *codec.Writer) {
	switch x.kind {
	case byteThing:
		w.Byte(byte(x.n))
	case wordThing:
		w.Word(uint32(x.n))
	case longThing:
		w.Long(x.n)
	case varThing:
		w.Var(x.n)
	case rawThing:
		w.Raw(x.b)
	case textThing:
		w.Text(x.b)
	default:
		codec.Put(w, x.parts, func(w *codec.Writer, p thing) { p.put(w) })
	}
}

// get reads a thing by the call that x was written by; inside a list all things are texts.
func (x thing) get(r *codec.Reader) thing {
	y := thing{kind: x.kind}
	switch x.kind {
	case byteThing:
		y.n = uint64(r.Byte())
	case wordThing:
		y.n = uint64(r.Word())
	case longThing:
		y.n = r.Long()
	case varThing:
		y.n = r.Var(math.MaxUint64)
	case rawThing:
		y.b = r.Raw(len(x.b))
	case textThing:
		y.b = r.Text(math.MaxInt)
	case listThing:
		y.parts = codec.List(r, math.MaxInt, thing{kind: textThing}.get)
	case itemsThing:
		for _, p := range codec.Items(r, math.MaxInt, thing{kind: textThing}.get) {
			y.parts = append(y.parts, p)
		}
	}
	return y
}

// makeThing draws a thing; the numbers are often at the edges of Var's forms.
func makeThing(draw *rand.Rand, kind int) thing {
	x := thing{kind: kind}
	switch kind {
	case byteThing:
		x.n = draw.Uint64N(1 << 8)
	case wordThing:
		x.n = draw.Uint64N(1 << 32)
	case longThing, varThing:
		edges := varForms()
		x.n = edges[draw.IntN(len(edges))].n + draw.Uint64N(3) - 1
	case rawThing, textThing:
		x.b = make([]byte, draw.IntN(5))
		for i := range x.b {
			x.b[i] = byte(draw.Uint32())
		}
	default:
		for range draw.IntN(4) {
			x.parts = append(x.parts, makeThing(draw, textThing))
		}
	}
	return x
}

func makeThings(draw *rand.Rand) []thing {
	l := make([]thing, 1+draw.IntN(6))
	for i := range l {
		l[i] = makeThing(draw, draw.IntN(kinds))
	}
	return l
}

func writeThings(l []thing) []byte {
	w := codec.New()
	for _, x := range l {
		x.put(w)
	}
	return w.Bytes()
}

// readThings reads by the calls that wrote l; it checks that Left never grows, nor changes after a failure.
func readThings(t *testing.T, b []byte, l []thing) ([]thing, *codec.Reader) {
	t.Helper()
	r := codec.Read(b)
	got := make([]thing, len(l))
	for i, x := range l {
		failed, left := r.Err(), r.Left()
		got[i] = x.get(r)
		if r.Left() > left || failed != api.OK && (r.Left() != left || r.Err() != failed) {
			t.Errorf("%x: left %d, then %d", b, left, r.Left())
		}
	}
	return got, r
}

// told makes nil and empty lists the same.
func told(l []thing) string { return fmt.Sprint(l) }

// P1.6: what was written is read, and no beginning of it is.
func TestReadAsWritten(t *testing.T) {
	draw := rand.New(rand.NewPCG(1, 6))
	for range 3000 {
		l := makeThings(draw)
		b := writeThings(l)
		got, r := readThings(t, b, l)
		if told(got) != told(l) || r.End() != api.OK || r.Left() != 0 {
			t.Fatalf("%v, read as %v: %d", l, got, r.End())
		}
		for n := range len(b) {
			if _, r := readThings(t, b[:n], l); r.Err() != api.ErrCodecShort || r.End() != api.ErrCodecShort {
				t.Fatalf("%v, cut off at %d: %d", l, n, r.Err())
			}
		}
	}
}

// P1.7: bytes that can be read can be written in that one way alone.
func TestOneWay(t *testing.T) {
	draw := rand.New(rand.NewPCG(1, 7))
	again := 0
	for range 20000 {
		l := makeThings(draw)
		b := writeThings(l)
		if len(b) == 0 {
			continue
		}
		b[draw.IntN(len(b))] ^= 1 << draw.IntN(8)
		got, r := readThings(t, b, l)
		if r.End() != api.OK {
			continue
		}
		again++
		if !bytes.Equal(writeThings(got), b) {
			t.Fatalf("%x is read as %v, which is written as %x", b, got, writeThings(got))
		}
	}
	if again < 1000 {
		t.Error("too few of the changed bytes could be read:", again)
	}
}

// P1.7: things that differ, of the same kinds, are written as other bytes.
func TestNoTwoAlike(t *testing.T) {
	draw := rand.New(rand.NewPCG(7, 1))
	seen := map[string][]thing{}
	for range 20000 {
		// not Raw: of how many bytes it is, the calls say, not the bytes
		l := []thing{makeThing(draw, textThing), makeThing(draw, varThing), makeThing(draw, listThing), makeThing(draw, textThing)}
		key := string(writeThings(l))
		if other, ok := seen[key]; ok && told(other) != told(l) {
			t.Fatalf("%v and %v are both %x", other, l, key)
		}
		seen[key] = l
	}
}

// R1, P1.7: no bytes make a reader panic, and the same calls answer the same.
func TestAnyBytes(t *testing.T) {
	draw := rand.New(rand.NewPCG(1, 1))
	for range 20000 {
		b := make([]byte, draw.IntN(24))
		for i := range b {
			b[i] = byte(draw.Uint32())
			if draw.IntN(3) == 0 {
				b[i] = byte(251 + draw.IntN(5))
			}
		}
		l := makeThings(draw)
		got, r := readThings(t, b, l)
		same, s := readThings(t, b, l)
		if !reflect.DeepEqual(got, same) || r.End() != s.End() || r.Left() != s.Left() {
			t.Fatalf("%x, read twice: %v, %v", b, got, same)
		}
		body, n, e := codec.Unframe(b)
		if e != api.OK && (len(body) != 0 || n != 0) {
			t.Fatalf("Unframe of %x: %x, %d, %d", b, body, n, e)
		}
	}
}
