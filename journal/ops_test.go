package journal_test

import (
	"fmt"
	"math"
	"slices"
	"strings"
	"testing"

	"hayloft/api"
	"hayloft/disk"
)

// wantWritten wants that ops may be written, and are told as they were.
func wantWritten(t *testing.T, what string, ops []api.Op) {
	t.Helper()
	p := newPair(t, 1)
	p.begin()
	p.commit(1, 1, ops, true)
	p.anew()
	if t.Failed() {
		t.Fatal(what)
	}
}

// wantNotWritten wants that an op may not be written, wherever it stands.
func wantNotWritten(t *testing.T, what string, o api.Op) {
	t.Helper()
	p := newPair(t, 1)
	p.begin()
	for _, ops := range [][]api.Op{list(o), append(someOps(), o), append(list(o), someOps()...)} {
		p.commit(1, 1, ops, false)
	}
	p.anew()
	p.commit(1, 1, nil, true)
	if t.Failed() {
		t.Fatal(what)
	}
}

func TestMayBeWritten(t *testing.T) {
	wantWritten(t, "none", nil)
	wantWritten(t, "none", []api.Op{})
	wantWritten(t, "some", someOps())
	wantWritten(t, "R4: lists that have nothing", list(api.Op{Rows: [][]api.Value{}, Where: []api.Term{}}, api.Op{Kind: api.OpDelete, Rows: [][]api.Value{}, Where: []api.Term{}}))
	wantWritten(t, "R4: a row that has nothing", list(insert(0, nil, []api.Value{})))
	for _, n := range []int{0, 1, 252, 253, 300} {
		wantWritten(t, "many ops", slices.Repeat(someOps(), n))
		wantWritten(t, "many rows", list(insert(1, slices.Repeat([][]api.Value{columns(2)}, n)...)))
		wantWritten(t, "many terms", list(remove(1, slices.Repeat([]api.Term{term(1, 2, text("x"))}, n)...)))
	}
	for _, n := range []int{0, 1, api.MaxColumns, 2 * api.MaxColumns} {
		wantWritten(t, "columns", list(insert(0, columns(n))))
	}
	long := row(text(long64()), number(math.MinInt64), number(math.MaxInt64))
	wantWritten(t, "values", list(insert(0, long), remove(0, term(0, 0, long[0]), term(0, 0, long[1]), term(0, 0, long[2]))))
}

func TestBytesOfOps(t *testing.T) {
	for _, n := range []int{0, 1, 7, 8, 127, 128, 254, 255} {
		wantWritten(t, "a table", list(insert(n), remove(n)))
		wantWritten(t, "a column", list(remove(0, term(n, 0, null()))))
		wantWritten(t, "an op", list(remove(0, term(0, n, null()))))
	}
	for _, n := range []int{-1, 256, 257, 1 << 16, -256, 1 << 32, math.MinInt, math.MaxInt} {
		what := fmt.Sprint("number ", n)
		wantNotWritten(t, what, insert(n))
		wantNotWritten(t, what, remove(n))
		wantNotWritten(t, what, remove(0, term(n, 0, null())))
		wantNotWritten(t, what, remove(0, term(0, n, null())))
		wantNotWritten(t, what, remove(0, term(0, 0, null()), term(n, n, null())))
	}
}

func TestMayNotBeWritten(t *testing.T) {
	for _, kind := range []int{2, 3, -1, 255, 256, 257, 1 << 32, math.MinInt, math.MaxInt} {
		wantNotWritten(t, fmt.Sprint("kind ", kind), api.Op{Kind: kind})
	}
	a, x := term(0, 0, null()), columns(1)
	wantNotWritten(t, "an insert with a term", api.Op{Where: []api.Term{a}})
	wantNotWritten(t, "an insert with both", api.Op{Where: []api.Term{a}, Rows: [][]api.Value{x}})
	wantNotWritten(t, "a delete with a row", api.Op{Kind: api.OpDelete, Rows: [][]api.Value{x}})
	wantNotWritten(t, "a delete with a row of nothing", api.Op{Kind: api.OpDelete, Rows: [][]api.Value{nil}})
	wantNotWritten(t, "a delete with both", api.Op{Kind: api.OpDelete, Rows: [][]api.Value{x}, Where: []api.Term{a}})
	wantNotWritten(t, "17 columns", insert(0, columns(2*api.MaxColumns+1)))
	wantNotWritten(t, "17 columns of the last row", insert(0, columns(1), columns(2*api.MaxColumns+1)))
	for what, v := range map[string]api.Value{
		"no kind":            {Kind: 4},
		"a kind below 0":     {Kind: -1},
		"a kind of 256":      {Kind: 256},
		"a null with an int": {Int: 1},
		"a bool with a text": {Kind: api.KindBool, Text: "a"},
		"an int with a bool": {Kind: api.KindInt, Bool: true},
		"a text with an int": {Kind: api.KindText, Int: 1},
		"a text of 65 bytes": text(long64() + "z"),
		"a text of more":     text(strings.Repeat("z", 1<<16)),
	} {
		wantNotWritten(t, what, insert(0, row(v)))
		wantNotWritten(t, what, insert(0, columns(3), row(number(1), v)))
		wantNotWritten(t, what, remove(0, term(0, api.TermNull, v)))
		wantNotWritten(t, what, remove(0, term(0, 0, null()), term(0, 0, v)))
	}
}

// rowsOf are rows of one text each whose record, of one insert of a number of them that takes 5 bytes, has just so many bytes.
func rowsOf(t *testing.T, size int) [][]api.Value {
	t.Helper()
	left := size - (1 + 8 + 8 + 1 + 2 + 5 + 1)
	var l [][]api.Value
	for left > 0 {
		n := min(left-4, api.MaxText) // a row of a text has four bytes more than the text
		if left > 4+n && left < 2*4+n {
			n -= 4 // a rest of four bytes and more
		}
		l = append(l, row(text(strings.Repeat("y", n))))
		left -= 4 + n
	}
	if got := len(committedRecord(1, 1, insert(0, l...))); got != size {
		t.Fatal("a record of", got, "bytes, want", size)
	}
	return l
}

// A record that a frame has no room for is refused, and the transaction stays undecided.
func TestLong(t *testing.T) {
	most := api.MaxFrame - 1 - 5 // the count of the records, and the length of the one
	p := newPair(t, 1)
	p.begin()
	for _, size := range []int{most + 1, most + 2, most + 1000, 2 * most} {
		wantErrno(t, "P19.3: a record that is too long", p.j.Commit(1, 1, list(insert(0, rowsOf(t, size)...))), api.ErrRedoLong)
		p.same("a record that is too long")
	}
	long := insert(0, rowsOf(t, most+1)...)
	wantErrno(t, "P19.3: what may not be written goes ahead of what is too long", p.j.Commit(1, 1, list(long, insert(256))), api.ErrJournalOps)
	wantErrno(t, "P19.3: another txn goes ahead", p.j.Commit(2, 1, list(long)), api.ErrJournalTxn)
	wantErrno(t, "P19.3: another epoch goes ahead", p.j.Commit(1, 2, list(long)), api.ErrJournalEpoch)
	p.same("a record that is too long")
	p.commit(1, 1, list(insert(0, rowsOf(t, most)...)), true)
	p.anew()
}

// What is too long for any record is refused with the rest, however much there is of it.
func TestFarTooLong(t *testing.T) {
	p := newPair(t, 1)
	p.begin()
	many := slices.Repeat([][]api.Value{slices.Repeat(row(text(long64())), 16)}, 1<<17)
	wantErrno(t, "P19.3: far too long", p.j.Commit(1, 1, list(insert(0, many...))), api.ErrRedoLong)
	terms := slices.Repeat([]api.Term{term(0, 0, text(long64()))}, 1<<19)
	wantErrno(t, "P19.3: far too many terms", p.j.Commit(1, 1, list(remove(0, terms...))), api.ErrRedoLong)
	wantErrno(t, "P19.3: far too many ops", p.j.Commit(1, 1, make([]api.Op, 1<<22)), api.ErrRedoLong)
	p.same("far too long")
}

// The disk's room is asked behind what the journal asks.
func TestLongOnAFullDisk(t *testing.T) {
	d := disk.New(100)
	j := open(t, "a small disk", d, 1)
	wantBegin(t, "a small disk", j, 1, api.OK)
	wantErrno(t, "P19.3: too long", j.Commit(1, 1, list(insert(0, rowsOf(t, api.MaxFrame)...))), api.ErrRedoLong)
	wantErrno(t, "P19.3: no room", j.Commit(1, 1, slices.Repeat(someOps(), 9)), api.ErrDiskFull)
	wantUndecided(t, "a small disk", j, 1)
}
