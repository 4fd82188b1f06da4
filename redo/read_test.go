package redo_test

import (
	"bytes"
	"encoding/binary"
	"hash/crc32"
	"math/rand/v2"
	"slices"
	"testing"

	"hayloft/api"
	"hayloft/redo"
)

func TestReadFrames(t *testing.T) {
	wantRead(t, "nil", nil, nil, 0)
	wantRead(t, "no byte", []byte{}, nil, 0)
	one, none, two := frames(t, "a"), frames(t), frames(t, "b", "")
	wantRead(t, "three frames", slices.Concat(one, none, two), list("a", "b", ""), 15+13+16)
	wantRead(t, "frames of nothing alone", slices.Concat(none, none), nil, 26)
	wantRead(t, "a torn frame behind one of nothing", slices.Concat(none, two[:15]), nil, 13)
	many := bytes.Repeat(one, 3000)
	wantRead(t, "many frames", many, slices.Repeat(list("a"), 3000), len(many))
}

// Each beginning of frames is read as those of them that are whole.
func TestReadTorn(t *testing.T) {
	r := rand.New(rand.NewPCG(9, 2))
	for range 40 {
		var b []byte
		var ends []int
		var records [][]byte
		var many []int
		for range 1 + r.IntN(4) {
			l := someRecords(r, 4)
			b = append(b, model(l)...)
			records = append(records, l...)
			ends, many = append(ends, len(b)), append(many, len(records))
		}
		for n := range len(b) + 1 {
			whole, of := 0, 0
			for i, end := range ends {
				if end <= n {
					whole, of = end, many[i]
				}
			}
			wantRead(t, "cut off", b[:n], records[:of], whole)
		}
	}
}

// wrongBodies are bodies that are no list of Texts.
func wrongBodies() map[string]string {
	return map[string]string{
		"no byte":                              "",
		"a record too few":                     "\x02\x01a",
		"one of one, and none":                 "\x01",
		"a record cut off":                     "\x01\x02a",
		"a byte behind":                        "\x01\x01a\x00",
		"a byte behind none":                   "\x00\x00",
		"a record more":                        "\x01\x01a\x01b",
		"a count in too many bytes":            "\xfd\x00\x01\x01a",
		"a count of 0 in too many":             "\xfd\x00\x00",
		"a length in too many":                 "\x01\xfd\x00\x01a",
		"a length of 0 in too many":            "\x01\xfe\x00\x00\x00\x00",
		"a count cut off":                      "\xfd\x01",
		"a length cut off":                     "\x01\xff\x00",
		"the greatest count":                   "\xff\xff\xff\xff\xff\xff\xff\xff\xff\x01a",
		"the greatest int":                     "\xff\x7f\xff\xff\xff\xff\xff\xff\xff\x01a",
		"a great count":                        "\xfe\x01\x00\x00\x01\x01a",
		"the greatest length":                  "\x01\xff\xff\xff\xff\xff\xff\xff\xff\xffa",
		"a great length":                       "\x01\xfe\x01\x00\x00\x00a",
		"a right list behind a wrong record":   "\x02\x05a\x01\x01b",
		"a frame":                              string(model(list("a"))),
		"one right record, one ill-formed":     "\x02\x01a\xfd\x00\x01b",
		"all right but for the count, too low": "\x00\x01a",
	}
}

func TestReadSpoiltBodies(t *testing.T) {
	one, two := model(list("a")), model(list("b", "c"))
	for what, body := range wrongBodies() {
		wrong := framed([]byte(body))
		wantSpoilt(t, what, wrong)
		wantSpoilt(t, what+", behind frames", slices.Concat(one, two, wrong))
		wantSpoilt(t, what+", ahead of one", slices.Concat(wrong, one))
		wantSpoilt(t, what+", ahead of a torn one", slices.Concat(wrong, one[:5]))
		wantRead(t, what+", torn", slices.Concat(one, wrong[:len(wrong)-1]), list("a"), len(one))
	}
}

// headed is a frame's head that says so many bytes.
func headed(n uint32) []byte {
	b := binary.BigEndian.AppendUint32(nil, n)
	return binary.BigEndian.AppendUint32(b, crc32.ChecksumIEEE(b))
}

func TestReadSpoiltFrames(t *testing.T) {
	one := model(list("a"))
	wantSpoilt(t, "zeros", make([]byte, 20))
	wantSpoilt(t, "8 zeros", make([]byte, 8))
	wantRead(t, "7 zeros", make([]byte, 7), nil, 0)
	wantSpoilt(t, "8 zeros behind a frame", append(bytes.Clone(one), make([]byte, 8)...))
	wantRead(t, "7 zeros behind a frame", append(bytes.Clone(one), make([]byte, 7)...), list("a"), len(one))
	wantSpoilt(t, "a head that says too much", headed(api.MaxFrame+1))
	wantSpoilt(t, "a head that says the most", slices.Concat(one, headed(1<<32-1), one))
	wantRead(t, "a head that says MaxFrame, torn", headed(api.MaxFrame), nil, 0)
	wantSpoilt(t, "a sum that is wrong", slices.Concat(one[:14], []byte{one[14] ^ 1}))
	wantSpoilt(t, "a byte lost within", slices.Concat(one[:9], one[10:], one))
	wantSpoilt(t, "a byte too many between", slices.Concat(one, []byte{0}, one))
	big := framed(make([]byte, api.MaxFrame+1))
	wantSpoilt(t, "a frame that is too long, and whole", big)
}

// Whatever the bytes are, Read ends, and answers what another reading of the same bytes does; what it takes is written in that way alone.
func TestReadAnyBytes(t *testing.T) {
	r := rand.New(rand.NewPCG(9, 3))
	ends := map[api.Errno]int{}
	for range 20000 {
		body := make([]byte, r.IntN(12))
		for i := range body {
			body[i] = byte(r.IntN(4))
			if r.IntN(20) == 0 {
				body[i] = byte(252 + r.IntN(4))
			}
		}
		b := framed(body)
		l, n, e := redo.Read(b)
		again, m, f := redo.Read(b)
		if !alike(l, again) || n != m || e != f {
			t.Fatalf("R6: %x: %q, %d, %d, then %q, %d, %d", b, l, n, e, again, m, f)
		}
		ends[e]++
		if e == api.OK && (n != len(b) || !bytes.Equal(model(l), b)) {
			t.Fatalf("P9.2: %x is read as %q, which is written as %x", b, l, model(l))
		}
		if e != api.OK && (len(l) != 0 || n != 0) {
			t.Fatalf("R2: %x: %q, %d, %d", b, l, n, e)
		}
	}
	if len(ends) != 2 || ends[api.OK] < 500 || ends[api.ErrRedoSpoilt] < 500 {
		t.Error("P9.2: too few of a kind:", ends)
	}
	for range 20000 {
		b := make([]byte, r.IntN(30))
		for i := range b {
			b[i] = byte(r.Uint32())
		}
		if l, n, e := redo.Read(b); len(l) != 0 || n != 0 || (e == api.OK) != (len(b) < 8) {
			t.Fatalf("P9.2: %x: %q, %d, %d", b, l, n, e)
		}
	}
}

// R5: what is handed in is left alone, and each record has memory of its own.
func TestReadMemory(t *testing.T) {
	b := slices.Concat(model(list("ab", "", "c")), model(list("de")), []byte("torn"))
	more := append(bytes.Clone(b), "behind"...)
	l, n, e := redo.Read(more[:len(b)])
	other, _, _ := redo.Read(more[:len(b)])
	if n != len(b)-4 || e != api.OK || string(more) != string(b)+"behind" {
		t.Fatalf("R5: changed: %d, %d, %q", n, e, more)
	}
	spoil(more)
	spoilAll(other)
	if !alike(l, list("ab", "", "c", "de")) {
		t.Fatalf("R5: what was handed in, or another answer, is seen: %q", l)
	}
	for i := range l {
		want := slices.Clone(l)
		for n := range want {
			want[n] = bytes.Clone(l[n])
		}
		spoil(l[i])
		for n := range l {
			if n != i && !bytes.Equal(l[n], want[n]) {
				t.Errorf("R5: record %d shows what is written to %d", n, i)
			}
		}
	}
}
