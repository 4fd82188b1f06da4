package codec_test

import (
	"bytes"
	"math"
	"testing"

	"hayloft/api"
	"hayloft/codec"
)

// wantFailed checks that a reader has failed with e, and that so many bytes are left.
func wantFailed(t *testing.T, what string, r *codec.Reader, e api.Errno, left int) {
	t.Helper()
	if r.Err() != e || r.End() != e || r.Left() != left {
		t.Errorf("%s: Err %d, End %d, Left %d; want %d, %d, %d", what, r.Err(), r.End(), r.Left(), e, e, left)
	}
}

// wantDone checks that a reader has not failed, and that so many bytes are left.
func wantDone(t *testing.T, what string, r *codec.Reader, left int) {
	t.Helper()
	end := api.OK
	if left > 0 {
		end = api.ErrCodecMore
	}
	if r.Err() != api.OK || r.End() != end || r.Left() != left {
		t.Errorf("%s: Err %d, End %d, Left %d; want left %d", what, r.Err(), r.End(), r.Left(), left)
	}
}

// P1.2: Byte, Word, Long.
func TestReaderFixed(t *testing.T) {
	b := []byte{1, 2, 3, 4, 5, 6, 7, 8, 9}
	cases := []struct {
		name string
		size int
		want uint64
		get  func(r *codec.Reader) uint64
	}{
		{"Byte", 1, 1, func(r *codec.Reader) uint64 { return uint64(r.Byte()) }},
		{"Word", 4, 0x01020304, func(r *codec.Reader) uint64 { return uint64(r.Word()) }},
		{"Long", 8, 0x0102030405060708, func(r *codec.Reader) uint64 { return r.Long() }},
	}
	for _, c := range cases {
		for n := range len(b) + 1 {
			r := codec.Read(b[:n])
			got := c.get(r)
			if n < c.size {
				if got != 0 {
					t.Errorf("%s of %d bytes: %d", c.name, n, got)
				}
				wantFailed(t, c.name, r, api.ErrCodecShort, n)
				continue
			}
			if got != c.want {
				t.Errorf("%s of %d bytes: %x", c.name, n, got)
			}
			wantDone(t, c.name, r, n-c.size)
		}
	}
}

func TestReaderVar(t *testing.T) {
	for _, c := range varForms() {
		form := unhex(t, c.form)
		r := codec.Read(append(bytes.Clone(form), 7))
		if n := r.Var(c.n); n != c.n {
			t.Errorf("Var(%d) of %x: %d", c.n, form, n)
		}
		wantDone(t, c.form, r, 1)
		r = codec.Read(form)
		if n := r.Var(math.MaxUint64); n != c.n {
			t.Errorf("Var of %x: %d", form, n)
		}
		wantDone(t, c.form, r, 0)
		for n := range len(form) {
			r := codec.Read(form[:n])
			if x := r.Var(math.MaxUint64); x != 0 {
				t.Errorf("Var of %x: %d", form[:n], x)
			}
			wantFailed(t, c.form+" cut off", r, api.ErrCodecShort, n)
		}
		if c.n == 0 {
			continue
		}
		r = codec.Read(form)
		if n := r.Var(c.n - 1); n != 0 {
			t.Errorf("Var(%d) of %x: %d", c.n-1, form, n)
		}
		wantFailed(t, c.form, r, api.ErrCodecLong, len(form))
	}
}

func TestReaderVarFaults(t *testing.T) {
	cases := []struct {
		name string
		form string
		most uint64
		e    api.Errno
	}{
		{"0 in 3", "fd 0000", 9, api.ErrCodecForm},
		{"252 in 3", "fd 00fc", 1000, api.ErrCodecForm},
		{"252 in 5", "fe 000000fc", 1000, api.ErrCodecForm},
		{"253 in 5", "fe 000000fd", 1000, api.ErrCodecForm},
		{"2^16 - 1 in 5", "fe 0000ffff", math.MaxUint64, api.ErrCodecForm},
		{"0 in 9", "ff 0000000000000000", 9, api.ErrCodecForm},
		{"2^16 in 9", "ff 0000000000010000", math.MaxUint64, api.ErrCodecForm},
		{"2^32 - 1 in 9", "ff 00000000ffffffff", math.MaxUint64, api.ErrCodecForm},
		{"ill-formed and cut off", "fe 000000", 9, api.ErrCodecShort},
		{"too great and cut off", "fd ff", 9, api.ErrCodecShort},
		{"ill-formed and too great", "fd 00fc", 9, api.ErrCodecForm},
		{"above a most of 0", "01", 0, api.ErrCodecLong},
		{"above a most of 252", "fd 00fd", 252, api.ErrCodecLong},
	}
	for _, c := range cases {
		b := unhex(t, c.form)
		r := codec.Read(b)
		if n := r.Var(c.most); n != 0 {
			t.Errorf("%s: %d", c.name, n)
		}
		wantFailed(t, c.name, r, c.e, len(b))
	}
}

func TestReaderRaw(t *testing.T) {
	b := []byte{1, 2, 3}
	for n := range 4 {
		r := codec.Read(b)
		if got := r.Raw(n); !bytes.Equal(got, b[:n]) {
			t.Errorf("Raw(%d): %x", n, got)
		}
		wantDone(t, "Raw", r, 3-n)
	}
	for _, n := range []int{4, 1 << 40, math.MaxInt} {
		r := codec.Read(b)
		if got := r.Raw(n); len(got) != 0 {
			t.Errorf("Raw(%d): %x", n, got)
		}
		wantFailed(t, "Raw of too many", r, api.ErrCodecShort, 3)
	}
	for _, n := range []int{-1, math.MinInt} {
		for _, b := range [][]byte{nil, b} {
			r := codec.Read(b)
			if got := r.Raw(n); len(got) != 0 {
				t.Errorf("Raw(%d): %x", n, got)
			}
			wantFailed(t, "Raw below 0", r, api.ErrCodecLong, len(b))
		}
	}
	r := codec.Read(nil)
	if got := r.Raw(0); len(got) != 0 {
		t.Errorf("Raw(0) of nothing: %x", got)
	}
	wantDone(t, "Raw(0) of nothing", r, 0)
}

func TestReaderText(t *testing.T) {
	cases := []struct {
		name string
		form string
		most int
		want string
		e    api.Errno
		left int
	}{
		{"as many as may be", "02 6162 63", 2, "ab", api.OK, 1},
		{"fewer than may be", "02 6162", 9, "ab", api.OK, 0},
		{"empty", "00", 0, "", api.OK, 0},
		{"empty, greatest most", "00 01", math.MaxInt, "", api.OK, 1},
		{"cut off", "02 61", 2, "", api.ErrCodecShort, 2},
		{"cut off at once", "02", 2, "", api.ErrCodecShort, 1},
		{"no bytes", "", 2, "", api.ErrCodecShort, 0},
		{"count cut off", "fd 00", 2, "", api.ErrCodecShort, 2},
		{"count ill-formed", "fd 0001 61", 2, "", api.ErrCodecForm, 4},
		{"too long", "03 616263", 2, "", api.ErrCodecLong, 4},
		{"too long and cut off", "03 61", 2, "", api.ErrCodecLong, 2},
		{"of a most of 0", "01 61", 0, "", api.ErrCodecLong, 2},
		{"most below 0, empty", "00 01", -1, "", api.ErrCodecLong, 2},
		{"most below 0, full", "01 61", -1, "", api.ErrCodecLong, 2},
		{"most below 0, greatest count", "ff ffffffffffffffff", -1, "", api.ErrCodecLong, 9},
		{"least most", "01 61", math.MinInt, "", api.ErrCodecLong, 2},
		{"most below 0, no bytes", "", -1, "", api.ErrCodecShort, 0},
		{"most below 0, count cut off", "fd 00", -1, "", api.ErrCodecShort, 2},
		{"most below 0, count ill-formed", "fd 0001 61", -1, "", api.ErrCodecForm, 4},
		{"huge count, nothing there", "ff 7fffffffffffffff 61", math.MaxInt, "", api.ErrCodecShort, 10},
		{"count above all ints", "ff 8000000000000000 61", math.MaxInt, "", api.ErrCodecLong, 10},
	}
	for _, c := range cases {
		r := codec.Read(unhex(t, c.form))
		if got := r.Text(c.most); string(got) != c.want {
			t.Errorf("%s: %q", c.name, got)
		}
		if c.e == api.OK {
			wantDone(t, c.name, r, c.left)
		} else {
			wantFailed(t, c.name, r, c.e, c.left)
		}
	}
}

func TestReaderTextLong(t *testing.T) {
	for _, n := range []int{252, 253, 1<<16 - 1, 1 << 16} {
		text := bytes.Repeat([]byte{0xa5}, n)
		w := codec.New()
		w.Text(text)
		r := codec.Read(w.Bytes())
		if got := r.Text(n); !bytes.Equal(got, text) {
			t.Errorf("a text of %d bytes has %d", n, len(got))
		}
		wantDone(t, "a long text", r, 0)
		r = codec.Read(w.Bytes())
		r.Text(n - 1)
		wantFailed(t, "a long text", r, api.ErrCodecLong, w.Len())
	}
}

// P1.2, P1.7: a reader that has failed reads nothing more, whatever it is asked.
func TestReaderFailsOnce(t *testing.T) {
	fails := []struct {
		name string
		fail func(r *codec.Reader)
		e    api.Errno
	}{
		{"short", func(r *codec.Reader) { r.Raw(100) }, api.ErrCodecShort},
		{"form", func(r *codec.Reader) { r.Var(9) }, api.ErrCodecForm},
		{"long", func(r *codec.Reader) { r.Raw(-1) }, api.ErrCodecLong},
		{"said", func(r *codec.Reader) { r.Fail(api.ErrArg) }, api.ErrArg},
	}
	calls := map[string]func(r *codec.Reader) bool{
		"Byte":           func(r *codec.Reader) bool { return r.Byte() == 0 },
		"Word":           func(r *codec.Reader) bool { return r.Word() == 0 },
		"Long":           func(r *codec.Reader) bool { return r.Long() == 0 },
		"Var":            func(r *codec.Reader) bool { return r.Var(math.MaxUint64) == 0 },
		"Var(0)":         func(r *codec.Reader) bool { return r.Var(0) == 0 },
		"Raw(0)":         func(r *codec.Reader) bool { return len(r.Raw(0)) == 0 },
		"Raw(1)":         func(r *codec.Reader) bool { return len(r.Raw(1)) == 0 },
		"Raw(-1)":        func(r *codec.Reader) bool { return len(r.Raw(-1)) == 0 },
		"Raw(100)":       func(r *codec.Reader) bool { return len(r.Raw(100)) == 0 },
		"Text":           func(r *codec.Reader) bool { return len(r.Text(9)) == 0 },
		"Text(-1)":       func(r *codec.Reader) bool { return len(r.Text(-1)) == 0 },
		"Fail":           func(r *codec.Reader) bool { r.Fail(api.ErrCodecSum); return true },
		"Fail(OK)":       func(r *codec.Reader) bool { r.Fail(api.OK); return true },
		"List":           func(r *codec.Reader) bool { return len(codec.List(r, 9, (*codec.Reader).Byte)) == 0 },
		"List, below 0":  func(r *codec.Reader) bool { return len(codec.List(r, -1, (*codec.Reader).Byte)) == 0 },
		"Items":          func(r *codec.Reader) bool { return countItems(r, 9) == 0 },
		"Items, below 0": func(r *codec.Reader) bool { return countItems(r, -1) == 0 },
	}
	for _, f := range fails {
		for name, call := range calls {
			r := codec.Read([]byte{1, 253, 0, 2, 5, 6, 7, 8, 9, 10, 11, 12})
			r.Byte()
			f.fail(r)
			wantFailed(t, f.name, r, f.e, 11)
			if !call(r) {
				t.Errorf("%s, then %s: not a zero value", f.name, name)
			}
			wantFailed(t, f.name+", then "+name, r, f.e, 11)
		}
	}
}

func countItems(r *codec.Reader, most int) int {
	n := 0
	for range codec.Items(r, most, (*codec.Reader).Byte) {
		n++
	}
	return n
}

func TestReaderFail(t *testing.T) {
	r := codec.Read([]byte{1, 2})
	r.Fail(api.OK)
	wantDone(t, "Fail(OK)", r, 2)
	if r.Byte() != 1 {
		t.Error("Fail(OK) hinders reading")
	}
	for _, e := range []api.Errno{api.ErrArg, api.ErrCodecMore, -1, math.MaxInt, math.MinInt} {
		r := codec.Read([]byte{1, 2})
		r.Fail(e)
		r.Fail(api.ErrCodecForm)
		wantFailed(t, "Fail", r, e, 2)
	}
	r = codec.Read(nil)
	r.Fail(api.ErrArg)
	wantFailed(t, "Fail where nothing is left", r, api.ErrArg, 0)
}

func TestReaderEndDoesNotFail(t *testing.T) {
	r := codec.Read([]byte{1, 2})
	for range 3 {
		wantDone(t, "End", r, 2)
	}
	if r.Byte() != 1 || r.Byte() != 2 {
		t.Error("End hinders reading")
	}
	wantDone(t, "End", r, 0)
	wantDone(t, "no bytes", codec.Read(nil), 0)
	wantDone(t, "no bytes", codec.Read([]byte{}), 0)
}

// R5: a reader has bytes of its own, and so has each answer.
func TestReaderMemory(t *testing.T) {
	given := []byte{1, 2, 3, 2, 4, 5, 6, 1, 7}
	before := bytes.Clone(given)
	r := codec.Read(given)
	raw := r.Raw(3)
	if !bytes.Equal(given, before) {
		t.Errorf("what was handed in was changed: %x", given)
	}
	scribble(raw)
	if !bytes.Equal(given, before) {
		t.Error("an answer is a piece of what was handed in")
	}
	scribble(given)
	text := r.Text(9)
	if !bytes.Equal(text, []byte{4, 5}) {
		t.Errorf("what was handed in, or the spare room of an answer, was kept: %x", text)
	}
	scribble(text)
	if x := r.Byte(); x != 6 {
		t.Errorf("the spare room of a text was kept: %x", x)
	}
	empty := r.Raw(0)
	scribble(empty)
	if text := r.Text(9); !bytes.Equal(text, []byte{7}) {
		t.Errorf("the spare room of an empty answer was kept: %x", text)
	}
}

// R6: two readers of the same bytes do not see each other.
func TestReadersApart(t *testing.T) {
	b := []byte{1, 2}
	one, other := codec.Read(b), codec.Read(b)
	one.Byte()
	one.Fail(api.ErrArg)
	wantDone(t, "the other reader", other, 2)
	if other.Byte() != 1 {
		t.Error("the other reader was moved")
	}
}
