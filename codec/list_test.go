package codec_test

import (
	"bytes"
	"math"
	"slices"
	"testing"

	"hayloft/api"
	"hayloft/codec"
)

func putByte(w *codec.Writer, x byte)   { w.Byte(x) }
func putText(w *codec.Writer, x string) { w.Text([]byte(x)) }
func getText(r *codec.Reader) string    { return string(r.Text(100)) }

// P1.3: Put.
func TestPut(t *testing.T) {
	w := codec.New()
	w.Byte(9)
	codec.Put(w, []string{"ab", "", "c"}, putText)
	if !bytes.Equal(w.Bytes(), unhex(t, "09 03 026162 00 0163")) {
		t.Errorf("three texts: %x", w.Bytes())
	}
	for _, l := range [][]byte{nil, {}} {
		w := codec.New()
		codec.Put(w, l, func(w *codec.Writer, x byte) { t.Error("a thing of an empty list") })
		if !bytes.Equal(w.Bytes(), []byte{0}) {
			t.Errorf("no things: %x", w.Bytes())
		}
	}
	for _, n := range []int{252, 253, 1<<16 - 1, 1 << 16} {
		things := bytes.Repeat([]byte{3}, n)
		w, want := codec.New(), codec.New()
		codec.Put(w, things, putByte)
		want.Var(uint64(n))
		want.Raw(things)
		if !bytes.Equal(w.Bytes(), want.Bytes()) {
			t.Errorf("%d things: %d bytes", n, w.Len())
		}
	}
}

func TestPutNested(t *testing.T) {
	lists := [][]byte{{1, 2}, nil, {3}}
	w := codec.New()
	codec.Put(w, lists, func(w *codec.Writer, l []byte) { codec.Put(w, l, putByte) })
	if !bytes.Equal(w.Bytes(), unhex(t, "03 020102 00 0103")) {
		t.Errorf("lists of a list: %x", w.Bytes())
	}
	r := codec.Read(w.Bytes())
	got := codec.List(r, 3, func(r *codec.Reader) []byte { return codec.List(r, 2, (*codec.Reader).Byte) })
	if len(got) != 3 || !slices.Equal(got[0], lists[0]) || len(got[1]) != 0 || !slices.Equal(got[2], lists[2]) {
		t.Error("lists of a list, read:", got)
	}
	wantDone(t, "lists of a list", r, 0)
}

func TestPutLeavesList(t *testing.T) {
	room := []byte{1, 2, 3, 4}
	w := codec.New()
	codec.Put(w, room[:2], putByte)
	if !bytes.Equal(room, []byte{1, 2, 3, 4}) {
		t.Errorf("the list, or its spare room, was changed: %x", room)
	}
	scribble(room)
	if !bytes.Equal(w.Bytes(), []byte{2, 1, 2}) {
		t.Errorf("the list was kept: %x", w.Bytes())
	}
}

// P1.3: List and Items read the same, and fail alike.
func TestListAndItems(t *testing.T) {
	cases := []struct {
		name  string
		form  string
		most  int
		want  []string // what List answers
		given int      // how many things Items gives
		e     api.Errno
		left  int
	}{
		{"as many as may be", "02 0161 0162", 2, []string{"a", "b"}, 2, api.OK, 0},
		{"fewer than may be", "02 0161 0162 07", 9, []string{"a", "b"}, 2, api.OK, 1},
		{"none", "00", 0, nil, 0, api.OK, 0},
		{"none, greatest most", "00 07", math.MaxInt, nil, 0, api.OK, 1},
		{"too many", "02 0161 0162", 1, nil, 0, api.ErrCodecLong, 5},
		{"no bytes", "", 9, nil, 0, api.ErrCodecShort, 0},
		{"count cut off", "fd 00", 9, nil, 0, api.ErrCodecShort, 2},
		{"count ill-formed", "fd 0001 0161", 9, nil, 0, api.ErrCodecForm, 5},
		{"cut off at once", "02", 2, nil, 0, api.ErrCodecShort, 0},
		{"cut off between", "02 0161", 2, nil, 1, api.ErrCodecShort, 0},
		{"cut off within", "02 0161 02", 2, nil, 1, api.ErrCodecShort, 1},
		{"a thing too long", "03 0161 65 0162", 3, nil, 1, api.ErrCodecLong, 3},
		{"most below 0, none", "00 07", -1, nil, 0, api.ErrCodecLong, 2},
		{"most below 0, one", "01 0161", -1, nil, 0, api.ErrCodecLong, 3},
		{"least most", "01 0161", math.MinInt, nil, 0, api.ErrCodecLong, 3},
		{"most below 0, no bytes", "", -1, nil, 0, api.ErrCodecShort, 0},
		{"most below 0, ill-formed", "fd 0001", -1, nil, 0, api.ErrCodecForm, 3},
		{"huge count, little there", "ff 7fffffffffffffff 0161", math.MaxInt, nil, 1, api.ErrCodecShort, 0},
		{"count above all ints", "ff 8000000000000000 0161", math.MaxInt, nil, 0, api.ErrCodecLong, 11},
	}
	check := func(name string, r *codec.Reader, e api.Errno, left int) {
		t.Helper()
		if e == api.OK {
			wantDone(t, name, r, left)
		} else {
			wantFailed(t, name, r, e, left)
		}
	}
	for _, c := range cases {
		r := codec.Read(unhex(t, c.form))
		if l := codec.List(r, c.most, getText); !slices.Equal(l, c.want) {
			t.Errorf("%s: List: %q", c.name, l)
		}
		check(c.name+": List", r, c.e, c.left)
		r = codec.Read(unhex(t, c.form))
		given := 0
		for i, x := range codec.Items(r, c.most, getText) {
			if i != given || x != []string{"a", "b"}[i] {
				t.Errorf("%s: Items: %d, %q", c.name, i, x)
			}
			given++
		}
		if given != c.given {
			t.Errorf("%s: Items gave %d", c.name, given)
		}
		check(c.name+": Items", r, c.e, c.left)
	}
}

func TestListLong(t *testing.T) {
	for _, n := range []int{252, 253, 1<<16 - 1, 1 << 16} {
		things := make([]byte, n)
		for i := range things {
			things[i] = byte(i % 251)
		}
		w := codec.New()
		codec.Put(w, things, putByte)
		r := codec.Read(w.Bytes())
		if l := codec.List(r, n, (*codec.Reader).Byte); !slices.Equal(l, things) {
			t.Errorf("a list of %d has %d", n, len(l))
		}
		wantDone(t, "a long list", r, 0)
	}
}

// Things of no bytes are counted all the same.
func TestListOfNothings(t *testing.T) {
	r := codec.Read(unhex(t, "fd 012c"))
	if l := codec.List(r, 300, func(r *codec.Reader) struct{} { return struct{}{} }); len(l) != 300 {
		t.Error("nothings:", len(l))
	}
	wantDone(t, "nothings", r, 0)
}

// one is called no more once the reader has failed.
func TestListStopsAtFailure(t *testing.T) {
	calls := 0
	third := func(r *codec.Reader) byte {
		calls++
		if calls == 3 {
			r.Fail(api.ErrArg)
			return 99
		}
		return r.Byte()
	}
	b := unhex(t, "05 01 02 03 04 05")
	r := codec.Read(b)
	if l := codec.List(r, 5, third); len(l) != 0 || calls != 3 {
		t.Errorf("List: %v after %d calls", l, calls)
	}
	wantFailed(t, "List", r, api.ErrArg, 3)

	calls = 0
	r = codec.Read(b)
	var given []byte
	for _, x := range codec.Items(r, 5, third) {
		given = append(given, x)
	}
	if !slices.Equal(given, []byte{1, 2}) || calls != 3 {
		t.Errorf("Items: %v after %d calls", given, calls)
	}
	wantFailed(t, "Items", r, api.ErrArg, 3)
}

// The last thing may fail, too.
func TestListFailsAtLast(t *testing.T) {
	last := func(r *codec.Reader) byte {
		x := r.Byte()
		if r.Left() == 0 {
			r.Fail(api.ErrRowsForm)
		}
		return x
	}
	r := codec.Read([]byte{2, 7, 8})
	if l := codec.List(r, 2, last); len(l) != 0 {
		t.Error("List:", l)
	}
	wantFailed(t, "List", r, api.ErrRowsForm, 0)
	r = codec.Read([]byte{2, 7, 8})
	for i, x := range codec.Items(r, 2, last) {
		if i != 0 || x != 7 {
			t.Error("Items:", i, x)
		}
	}
	wantFailed(t, "Items", r, api.ErrRowsForm, 0)
}

func TestListOfFailedReader(t *testing.T) {
	never := func(r *codec.Reader) byte {
		t.Error("a failed reader was asked")
		return 1
	}
	for _, most := range []int{-1, 0, 9} {
		r := codec.Read([]byte{2, 7, 8})
		r.Fail(api.ErrCodecForm)
		if l := codec.List(r, most, never); len(l) != 0 {
			t.Error("List:", l)
		}
		for i, x := range codec.Items(r, most, never) {
			t.Error("Items:", i, x)
		}
		wantFailed(t, "failed before", r, api.ErrCodecForm, 3)
	}
}

// Nothing is read before a range begins.
func TestItemsBeginsWithRange(t *testing.T) {
	r := codec.Read([]byte{9, 2, 7, 8})
	items := codec.Items(r, 2, (*codec.Reader).Byte)
	wantDone(t, "Items alone", r, 4)
	if r.Byte() != 9 {
		t.Error("Items alone moved the reader")
	}
	var given []byte
	for i, x := range items {
		if i != len(given) || r.Left() != 1-i {
			t.Error("place", i, "left", r.Left())
		}
		given = append(given, x)
	}
	if !slices.Equal(given, []byte{7, 8}) {
		t.Error("given:", given)
	}
	wantDone(t, "Items", r, 0)
}

func TestItemsLeft(t *testing.T) {
	for stop := range 3 {
		r := codec.Read([]byte{3, 7, 8, 9, 4})
		for i := range codec.Items(r, 3, (*codec.Reader).Byte) {
			if i == stop {
				break
			}
		}
		wantDone(t, "a range that was left", r, 3-stop)
		if x := r.Byte(); x != []byte{8, 9, 4}[stop] {
			t.Error("behind a range that was left:", x)
		}
	}
}

// A range that is begun again reads the list that is there then.
func TestItemsAgain(t *testing.T) {
	r := codec.Read([]byte{1, 7, 2, 8, 9})
	items := codec.Items(r, 2, (*codec.Reader).Byte)
	var given []byte
	for range 2 {
		for _, x := range items {
			given = append(given, x)
		}
	}
	if !slices.Equal(given, []byte{7, 8, 9}) {
		t.Error("given:", given)
	}
	wantDone(t, "twice", r, 0)
	for i, x := range items {
		t.Error("a third time:", i, x)
	}
	wantFailed(t, "a third time", r, api.ErrCodecShort, 0)
}

// What ranges over it may read on by itself, and may fail the reader.
func TestItemsBody(t *testing.T) {
	r := codec.Read([]byte{2, 7, 1, 8, 2, 5})
	for i, x := range codec.Items(r, 2, (*codec.Reader).Byte) {
		if x != byte(7+i) || r.Byte() != byte(1+i) {
			t.Error("Items:", i, x)
		}
	}
	wantDone(t, "a body that reads", r, 1)

	calls := 0
	r = codec.Read([]byte{3, 7, 8, 9})
	for i := range codec.Items(r, 3, func(r *codec.Reader) byte { calls++; return r.Byte() }) {
		if i == 1 {
			r.Fail(api.ErrArg)
		}
	}
	if calls != 2 {
		t.Error("a body that fails the reader:", calls, "calls")
	}
	wantFailed(t, "a body that fails the reader", r, api.ErrArg, 1)
}

// R5: the lists that are answered share nothing.
func TestListMemory(t *testing.T) {
	r := codec.Read([]byte{3, 1, 2, 3, 2, 4, 5})
	one := codec.List(r, 3, (*codec.Reader).Byte)
	scribble(one)
	two := codec.List(r, 3, (*codec.Reader).Byte)
	scribble(one)
	if !slices.Equal(two, []byte{4, 5}) {
		t.Errorf("another answer was changed: %x", two)
	}
}
