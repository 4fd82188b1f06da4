package rows_test

import (
	"slices"
	"strings"
	"testing"

	"hayloft/api"
	"hayloft/rows"
	"hayloft/value"
)

// wantKey wants that l's key is want, and that this is read as l.
func wantKey(t *testing.T, l []api.Value, want string) {
	t.Helper()
	bytes := unhex(t, want)
	if b, e := rows.Key(l); e != api.OK || !slices.Equal(b, bytes) {
		t.Errorf("P3.2: Key(%+v): %x, %d, want %x", l, b, e, bytes)
	}
	if r, e := rows.Unkey(bytes); e != api.OK || !slices.Equal(r, l) {
		t.Errorf("P3.2: Unkey(%x): %+v, %d, want %+v", bytes, r, e, l)
	}
}

func TestKey(t *testing.T) {
	wantKey(t, nil, "")
	wantKey(t, row(), "")
	wantKey(t, row(value.Null(), value.Bool(true), value.Int(1), value.Text("ab")), "00 0101 028000000000000001 0361620000")
	wantKey(t, row(value.Text(""), value.Null(), value.Text("\x00"), value.Bool(false)), "030000 00 0300ff0000 0100")
	for _, k := range written {
		wantKey(t, row(k.v), k.key)
		wantKey(t, row(k.v, k.v), k.key+k.key)
		wantKey(t, row(value.Int(-1), k.v, value.Text("z")), "027fffffffffffffff"+k.key+"037a0000")
		wantKey(t, slices.Repeat(row(k.v), 16), strings.Repeat(k.key, 16))
	}
}

// wantNoKey wants that b is no row's Key.
func wantNoKey(t *testing.T, b []byte) {
	t.Helper()
	if r, e := rows.Unkey(b); len(r) > 0 || e != api.ErrRowsForm {
		t.Errorf("P3.2: Unkey(%x): %+v, %d", b, r, e)
	}
}

func TestUnkeyWrong(t *testing.T) {
	for _, s := range []string{
		"04", "05", "80", "ff", "0004", "010004", "0400", // a kind that there is not
		"01", "0102", "01ff", "0001", "000102", // a bool
		"02", "0280", "0280000000000000", "000280000000000000", // an int that is cut off
		"03", "0300", "0361", "036100", "0300ff", "0300ff00", "0361620361", // a text that has no end
		"030001", "03000100", "0300010000", "0300fe0000", "0361008000", "036100030000", "0300ff000100", // a byte 0 that stands alone
		strings.Repeat("00", 17), strings.Repeat("00", 1000), strings.Repeat("0101", 17), strings.Repeat("030000", 17), // too many
		strings.Repeat("00", 16) + "04",
		"03" + strings.Repeat("61", 65) + "0000", "03" + strings.Repeat("61", 1000) + "0000", "03" + strings.Repeat("61", 1000), // too long
		"03" + strings.Repeat("00ff", 65) + "0000", "03" + strings.Repeat("61", 64) + "00ff0000",
		"03" + strings.Repeat("61", 64), "03" + strings.Repeat("61", 64) + "00", "03" + strings.Repeat("61", 64) + "0001",
	} {
		wantNoKey(t, unhex(t, s))
	}
}

// A row of seventeen values has no key, be their bytes as they may.
func TestUnkeyMany(t *testing.T) {
	for _, k := range written {
		wantNoKey(t, unhex(t, strings.Repeat(k.key, 17)))
	}
}

// What is cut off within the last value is no key; where a value ends it is one of the values up to there.
func TestUnkeyCut(t *testing.T) {
	for _, k := range written {
		head, _ := rows.Key(row(k.v, value.Int(7)))
		b, _ := rows.Key(row(k.v, value.Int(7), k.v))
		for i := len(head) + 1; i < len(b); i++ {
			wantNoKey(t, b[:i])
		}
		if r, e := rows.Unkey(b[:len(head)]); e != api.OK || !slices.Equal(r, row(k.v, value.Int(7))) {
			t.Errorf("P3.2: Unkey(%x): %+v, %d", head, r, e)
		}
		for x := 4; x < 256; x++ {
			wantNoKey(t, append(slices.Clone(b), byte(x)))
		}
	}
}
