package rows_test

import (
	"bytes"
	"math/rand/v2"
	"slices"
	"testing"

	"hayloft/api"
	"hayloft/rows"
	"hayloft/value"
)

// aValue is any right value.
func aValue(r *rand.Rand) api.Value {
	switch r.IntN(4) {
	case 0:
		return value.Null()
	case 1:
		return value.Bool(r.IntN(2) == 0)
	case 2:
		return value.Int(int64(r.Uint64()) >> r.IntN(64))
	}
	b := make([]byte, r.IntN(api.MaxText+1))
	for i := range b {
		b[i] = byte(r.Uint32())
	}
	return value.Text(string(b))
}

// aNearValue is one of few values, many of them the beginnings of others.
func aNearValue(r *rand.Rand) api.Value {
	if r.IntN(2) == 0 {
		few := []api.Value{value.Null(), value.Bool(false), value.Bool(true), value.Int(-1), value.Int(0), value.Int(1), value.Int(256), value.Int(-256)}
		return few[r.IntN(len(few))]
	}
	const few = "\x00\x01\x02\x03\xfe\xff"
	b := make([]byte, r.IntN(4))
	for i := range b {
		b[i] = few[r.IntN(len(few))]
	}
	return value.Text(string(b))
}

// aRow is a row of at most so many values.
func aRow(r *rand.Rand, most int, one func(*rand.Rand) api.Value) []api.Value {
	l := make([]api.Value, r.IntN(most+1))
	for i := range l {
		l[i] = one(r)
	}
	return l
}

func TestThereAndBack(t *testing.T) {
	r := rand.New(rand.NewPCG(3, 4))
	for range 20000 {
		l := aRow(r, 16, aValue)
		b, e := rows.Encode(l)
		if got, d := rows.Decode(b); e != api.OK || d != api.OK || !slices.Equal(got, l) {
			t.Fatalf("P3.4: Decode(%x): %+v, %d, %d, want %+v", b, got, e, d, l)
		}
		b, e = rows.Key(l)
		if got, d := rows.Unkey(b); e != api.OK || d != api.OK || !slices.Equal(got, l) {
			t.Fatalf("P3.4: Unkey(%x): %+v, %d, %d, want %+v", b, got, e, d, l)
		}
	}
}

// wantSame wants that what Decode and Unkey take of b is written as b again; it tells which of them took it.
func wantSame(t *testing.T, b []byte) (decoded, unkeyed bool) {
	t.Helper()
	if l, e := rows.Decode(b); e == api.OK {
		decoded = true
		if again, e := rows.Encode(l); e != api.OK || !bytes.Equal(again, b) {
			t.Fatalf("P3.4: %x is taken as %+v, and that is written %x, %d", b, l, again, e)
		}
	} else {
		wantNoRow(t, b)
	}
	if l, e := rows.Unkey(b); e == api.OK {
		unkeyed = true
		if again, e := rows.Key(l); e != api.OK || !bytes.Equal(again, b) {
			t.Fatalf("P3.4: %x is taken as %+v, and its key is %x, %d", b, l, again, e)
		}
	} else {
		wantNoKey(t, b)
	}
	return decoded, unkeyed
}

// All byte strings of at most two bytes, and those of at most six that few bytes make.
func TestSameBytes(t *testing.T) {
	wantSame(t, nil)
	for x := range 256 {
		wantSame(t, []byte{byte(x)})
		for y := range 256 {
			wantSame(t, []byte{byte(x), byte(y)})
		}
	}
	const few = "\x00\x01\x02\x03\x04\x41\xff"
	all, decoded, unkeyed := 1, 0, 0
	for n := range 7 {
		for k := range all {
			b := make([]byte, n)
			for i := range b {
				b[i] = few[k%len(few)]
				k /= len(few)
			}
			d, u := wantSame(t, b)
			decoded += count(d)
			unkeyed += count(u)
		}
		all *= len(few)
	}
	if decoded < 100 || unkeyed < 100 {
		t.Errorf("only %d and %d were taken", decoded, unkeyed)
	}
}

func count(is bool) int {
	if is {
		return 1
	}
	return 0
}

// Bytes that were a row's, or its key, but for one of them.
func TestSameBytesSpoilt(t *testing.T) {
	r := rand.New(rand.NewPCG(3, 6))
	for range 50000 {
		l := aRow(r, 17, aNearValue)
		b, _ := rows.Encode(l)
		if r.IntN(2) == 0 {
			b, _ = rows.Key(l)
		}
		if len(b) > 0 {
			b[r.IntN(len(b))] = byte(r.IntN(256)) >> r.IntN(8)
		}
		wantSame(t, b)
	}
}

// wantOrder wants that two rows' keys are ordered as they are.
func wantOrder(t *testing.T, a, b []api.Value) {
	t.Helper()
	x, e := rows.Key(a)
	y, f := rows.Key(b)
	if e != api.OK || f != api.OK || bytes.Compare(x, y) != value.Rows(a, b) {
		t.Errorf("P3.5: %+v and %+v: %x and %x, %d, %d", a, b, x, y, e, f)
	}
}

func TestKeyOrder(t *testing.T) {
	for _, a := range written {
		for _, b := range written {
			wantOrder(t, row(a.v), row(b.v))
			wantOrder(t, row(a.v, b.v), row(b.v, a.v))
			wantOrder(t, row(a.v, b.v), row(a.v))
			wantOrder(t, row(a.v), row(b.v, value.Null()))
			wantOrder(t, row(a.v, value.Text("\xff")), row(b.v, value.Null()))
		}
		wantOrder(t, nil, row(a.v))
		wantOrder(t, slices.Repeat(row(a.v), 15), slices.Repeat(row(a.v), 16))
	}
	wantOrder(t, nil, nil)
}

func TestKeyOrderOfMany(t *testing.T) {
	r := rand.New(rand.NewPCG(3, 5))
	for range 50000 {
		wantOrder(t, aRow(r, 4, aNearValue), aRow(r, 4, aNearValue))
		wantOrder(t, aRow(r, 2, aValue), aRow(r, 2, aValue))
		if t.Failed() {
			return
		}
	}
}
