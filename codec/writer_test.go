package codec_test

import (
	"bytes"
	"encoding/hex"
	"math"
	"strings"
	"testing"

	"hayloft/codec"
)

// unhex makes bytes of pairs of digits with blanks between them.
func unhex(t *testing.T, s string) []byte {
	t.Helper()
	b, err := hex.DecodeString(strings.ReplaceAll(s, " ", ""))
	if err != nil {
		t.Fatal(err)
	}
	return b
}

// scribble writes over a list and over the spare room behind its end.
func scribble(b []byte) {
	b = b[:cap(b)]
	for i := range b {
		b[i] = 0xee
	}
}

type varForm struct {
	n    uint64
	form string
}

// varForms holds each Var at the edges between its forms.
func varForms() []varForm {
	return []varForm{
		{0, "00"}, {1, "01"}, {251, "fb"}, {252, "fc"},
		{253, "fd 00fd"}, {254, "fd 00fe"}, {255, "fd 00ff"}, {256, "fd 0100"}, {1<<16 - 1, "fd ffff"},
		{1 << 16, "fe 00010000"}, {0x01020304, "fe 01020304"}, {1<<32 - 1, "fe ffffffff"},
		{1 << 32, "ff 0000000100000000"}, {0x0102030405060708, "ff 0102030405060708"}, {math.MaxUint64, "ff ffffffffffffffff"},
	}
}

// P1.1: the table 'Forms'.
func TestWriterForms(t *testing.T) {
	long := bytes.Repeat([]byte("x"), 253)
	cases := []struct {
		name string
		put  func(w *codec.Writer)
		form string
	}{
		{"nothing", func(w *codec.Writer) {}, ""},
		{"Byte 0", func(w *codec.Writer) { w.Byte(0) }, "00"},
		{"Byte 255", func(w *codec.Writer) { w.Byte(255) }, "ff"},
		{"Word 258", func(w *codec.Writer) { w.Word(258) }, "00000102"},
		{"Word greatest", func(w *codec.Writer) { w.Word(math.MaxUint32) }, "ffffffff"},
		{"Word", func(w *codec.Writer) { w.Word(0x01020304) }, "01020304"},
		{"Long 0", func(w *codec.Writer) { w.Long(0) }, "0000000000000000"},
		{"Long", func(w *codec.Writer) { w.Long(0x0102030405060708) }, "0102030405060708"},
		{"Long greatest", func(w *codec.Writer) { w.Long(math.MaxUint64) }, "ffffffffffffffff"},
		{"Raw nil", func(w *codec.Writer) { w.Raw(nil) }, ""},
		{"Raw empty", func(w *codec.Writer) { w.Raw([]byte{}) }, ""},
		{"Raw", func(w *codec.Writer) { w.Raw([]byte{0, 9}) }, "0009"},
		{"Text nil", func(w *codec.Writer) { w.Text(nil) }, "00"},
		{"Text empty", func(w *codec.Writer) { w.Text([]byte{}) }, "00"},
		{"Text", func(w *codec.Writer) { w.Text([]byte("ab")) }, "02 6162"},
		{"Text of 252", func(w *codec.Writer) { w.Text(long[:252]) }, "fc" + hex.EncodeToString(long[:252])},
		{"Text of 253", func(w *codec.Writer) { w.Text(long) }, "fd 00fd" + hex.EncodeToString(long)},
	}
	for _, c := range cases {
		w := codec.New()
		c.put(w)
		want := unhex(t, c.form)
		if !bytes.Equal(w.Bytes(), want) || w.Len() != len(want) {
			t.Errorf("%s: %x, %d", c.name, w.Bytes(), w.Len())
		}
	}
}

func TestWriterVar(t *testing.T) {
	for _, c := range varForms() {
		w := codec.New()
		w.Var(c.n)
		want := unhex(t, c.form)
		if !bytes.Equal(w.Bytes(), want) || w.Len() != len(want) {
			t.Errorf("Var(%d): %x, %d", c.n, w.Bytes(), w.Len())
		}
	}
}

func TestWriterPutsBehind(t *testing.T) {
	w, other := codec.New(), codec.New()
	puts := []func(){
		func() { w.Byte(1) },
		func() { w.Word(2) },
		func() { w.Long(3) },
		func() { w.Var(253) },
		func() { w.Raw([]byte{4, 5}) },
		func() { w.Text([]byte{6}) },
	}
	forms := []string{"01", "00000002", "0000000000000003", "fd00fd", "0405", "0106"}
	var want []byte
	for i, put := range puts {
		put()
		want = append(want, unhex(t, forms[i])...)
		if w.Len() != len(want) || !bytes.Equal(w.Bytes(), want) || !bytes.Equal(w.Bytes(), want) {
			t.Errorf("after %d: %x, %d", i, w.Bytes(), w.Len())
		}
	}
	if other.Len() != 0 || len(other.Bytes()) != 0 {
		t.Errorf("another writer has %x", other.Bytes())
	}
}

// R5: neither what is handed in nor what is answered is shared.
func TestWriterMemory(t *testing.T) {
	w := codec.New()
	room := []byte("abcdef")
	w.Raw(room[:2])
	w.Text(room[2:4])
	if string(room) != "abcdef" {
		t.Errorf("what was handed in, or its spare room, was changed: %q", room)
	}
	scribble(room)
	want := []byte("ab\x02cd")
	first := w.Bytes()
	second := w.Bytes()
	if !bytes.Equal(first, want) {
		t.Errorf("what was handed in was kept: %x", first)
	}
	scribble(first)
	if !bytes.Equal(second, want) || !bytes.Equal(w.Bytes(), want) {
		t.Errorf("an answer was kept: %x, %x", second, w.Bytes())
	}
	w.Byte('z')
	scribble(second)
	if !bytes.Equal(w.Bytes(), append(want, 'z')) {
		t.Errorf("the spare room of an answer was kept: %x", w.Bytes())
	}
	w.Raw(w.Bytes())
	if !bytes.Equal(w.Bytes(), []byte("ab\x02cdzab\x02cdz")) {
		t.Errorf("its own bytes put behind it: %x", w.Bytes())
	}
}
