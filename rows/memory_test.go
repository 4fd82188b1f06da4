package rows_test

import (
	"bytes"
	"slices"
	"testing"

	"hayloft/api"
	"hayloft/rows"
	"hayloft/value"
)

var pair = [2]api.Value{value.Int(-5), value.Text("a\x00")}

// What is handed in stays as it is, and so does the spare room behind it.
func TestArgumentsStay(t *testing.T) {
	l := []api.Value{pair[0], pair[1], value.Int(9)}
	b, _ := rows.Encode(l[:2])
	k, _ := rows.Key(l[:2])
	if !slices.Equal(l, []api.Value{pair[0], pair[1], value.Int(9)}) {
		t.Error("R5: a row was changed:", l)
	}
	more := append(slices.Clone(b), 1, 2, 3)
	rows.Decode(more[:len(b)])
	if !bytes.Equal(more, append(slices.Clone(b), 1, 2, 3)) {
		t.Errorf("R5: Decode changed its bytes: %x", more)
	}
	more = append(slices.Clone(k), 1, 2, 3)
	rows.Unkey(more[:len(k)])
	if !bytes.Equal(more, append(slices.Clone(k), 1, 2, 3)) {
		t.Errorf("R5: Unkey changed its bytes: %x", more)
	}
}

// What is spare behind the end is no part of what is handed in.
func TestSpareIsNoPart(t *testing.T) {
	b, _ := rows.Encode(pair[:])
	k, _ := rows.Key(pair[:])
	wantNoRow(t, b[:len(b)-1])
	wantNoKey(t, k[:len(k)-1])
	if got, e := rows.Encode(pair[:1]); e != api.OK || !bytes.Equal(got, append([]byte{1}, b[1:10]...)) {
		t.Errorf("P3.1: %x, %d", got, e)
	}
}

// What is read has memory of its own.
func TestReadIsOwn(t *testing.T) {
	b, _ := rows.Encode(pair[:])
	k, _ := rows.Key(pair[:])
	l, _ := rows.Decode(b)
	m, _ := rows.Unkey(k)
	clear(b[:cap(b)])
	clear(k[:cap(k)])
	if !slices.Equal(l, pair[:]) || !slices.Equal(m, pair[:]) {
		t.Error("R5: a row hangs on the bytes that it was read from:", l, m)
	}
}

// No answer shows what is written into another one, its spare room too.
func TestAnswersAreNew(t *testing.T) {
	for _, write := range []func([]api.Value) ([]byte, api.Errno){rows.Encode, rows.Key} {
		first, _ := write(pair[:])
		want := slices.Clone(first)
		second, _ := write(pair[:])
		spoil(second)
		third, _ := write(pair[:])
		if !bytes.Equal(first, want) || !bytes.Equal(third, want) {
			t.Errorf("R5: %x, %x, want %x", first, third, want)
		}
	}
	for _, read := range []func() ([]api.Value, api.Errno){
		func() ([]api.Value, api.Errno) { b, _ := rows.Encode(pair[:]); return rows.Decode(b) },
		func() ([]api.Value, api.Errno) { b, _ := rows.Key(pair[:]); return rows.Unkey(b) },
	} {
		first, _ := read()
		second, _ := read()
		clear(second[:cap(second)])
		third, _ := read()
		if !slices.Equal(first, pair[:]) || !slices.Equal(third, pair[:]) {
			t.Errorf("R5: %+v, %+v", first, third)
		}
	}
}

func spoil(b []byte) {
	b = b[:cap(b)]
	for i := range b {
		b[i] ^= 255
	}
}
