package coord_test

import (
	"math"
	"slices"
	"strings"
	"testing"

	"hayloft/api"
	"hayloft/value"
)

// rowsOf are so many rows of table 1 of four.
func rowsOf(many int) [][]api.Value {
	var l [][]api.Value
	for i := range many {
		l = append(l, row(i))
	}
	return l
}

// badOps can't be done in four, each for one thing.
func badOps() map[string][]api.Op {
	good := insert(0, row(1, "b"))
	bad := map[string][]api.Op{
		"nothing":                               nil,
		"an empty list":                         {},
		"too many":                              slices.Repeat(ops(good), api.MaxOps+1),
		"an insert of no row":                   ops(insert(0)),
		"an insert with an empty list of rows":  ops(api.Op{Rows: [][]api.Value{}}),
		"an insert with a term":                 ops(api.Op{Rows: list(row(1, "b")), Where: []api.Term{term(0, 1)}}),
		"a row too short":                       ops(insert(0, row(1))),
		"a row too long":                        ops(insert(0, row(1, "b", nil))),
		"an empty row":                          ops(insert(0, row())),
		"a null that may not be":                ops(insert(0, row(nil, "b"))),
		"another kind":                          ops(insert(0, row("a", "b"))),
		"the second row":                        ops(insert(0, row(1, "b"), row(true, "b"))),
		"a text too long":                       ops(insert(0, row(1, strings.Repeat("b", api.MaxText+1)))),
		"no value":                              ops(insert(0, []api.Value{{Kind: 9}, value.Null()})),
		"a value with more than its kind names": ops(insert(0, []api.Value{{Kind: api.KindInt, Text: "a"}, value.Null()})),
		"another table's row":                   ops(insert(1, row(1, "b"))),
		"a delete with rows":                    ops(api.Op{Kind: api.OpDelete, Rows: list(row(1, "b"))}),
		"a term on no column":                   ops(remove(0, api.Term{Column: 2, Op: api.TermNull})),
		"a term on no column of that table":     ops(remove(1, api.Term{Column: 1, Op: api.TermNull})),
		"a term of another kind":                ops(remove(0, api.Term{Column: 1, Value: value.Int(1)})),
		"a term of a null":                      ops(remove(0, api.Term{Column: 1})),
		"a term of no Op":                       ops(remove(0, api.Term{Op: 8, Value: value.Int(1)})),
		"the second term":                       ops(remove(0, term(0, 1), term(1, 1))),
		"too many terms":                        ops(remove(0, slices.Repeat([]api.Term{term(0, 1)}, api.MaxTerms+1)...)),
		"too many rows":                         ops(insert(1, rowsOf(api.MaxInsert+1)...)),
		"too many rows together":                ops(insert(1, rowsOf(api.MaxInsert-1)...), remove(0), insert(1, rowsOf(2)...)),
		"too many rows, table by table":         ops(insert(1, rowsOf(api.MaxInsert)...), good),
		"the last op":                           ops(good, remove(1), insert(0)),
		"the first op":                          ops(insert(0), good, remove(1)),
	}
	for _, n := range append(ends(), 2) {
		kind, table, column := good, good, remove(0, api.Term{Column: n, Op: api.TermFull})
		kind.Kind, table.Table = n, n
		bad["a kind "+value.Print(value.Int(int64(n)))] = ops(kind)
		bad["a kind of nothing "+value.Print(value.Int(int64(n)))] = ops(api.Op{Kind: n})
		bad["a table "+value.Print(value.Int(int64(n)))] = ops(table)
		bad["a table to delete from "+value.Print(value.Int(int64(n)))] = ops(remove(n))
		bad["a column "+value.Print(value.Int(int64(n)))] = ops(column)
	}
	return bad
}

func TestSubmitInvalid(t *testing.T) {
	b := begin(t, four())
	roomless := begin(t, four())
	roomless.d.Append("filler", make([]byte, roomless.d.Free()))
	busy := begin(t, four())
	busy.c.Submit(0, ops(insert(1, row(1))), 0)
	out := begin(t, four())
	out.evicts(1, 2)
	both := begin(t, four())
	both.c.Submit(0, ops(insert(1, row(1))), 0)
	both.evicts(1, 2)
	for what, l := range badOps() {
		for to := range 3 {
			b.want("P21.2: "+what, hear(b.c.Submit(to-1, l, to)), replied(failed(to-1, api.ErrInvalid)))
		}
		for _, x := range []*bench{roomless, busy, out, both} { // whatever else is not as it must be
			x.want("P21.2: "+what, hear(x.c.Submit(9, l, 0)), replied(failed(9, api.ErrInvalid)))
		}
	}
	b.wantState("refused", 0, 0, false, 0, true, true, true, true)
	b.want("P21.2: none of these had a number", hear(b.c.Submit(9, ops(insert(1, row(1))), 0)).only(0), said(prepare(0, 1, 0, partsOf(four(), []full{{1, 0, row(1)}})[0])))
}

// only is what is said to one node.
func (h heard) only(to int) heard {
	h.messages = slices.DeleteFunc(h.messages, func(x api.Message) bool { return x.To != to })
	return h
}

func TestSubmitTakes(t *testing.T) {
	for what, l := range map[string][]api.Op{
		"as many ops as may be":     slices.Repeat(ops(insert(0, row(1, nil))), api.MaxOps),
		"as many rows as may be":    ops(insert(1, rowsOf(api.MaxInsert)...)),
		"as many rows together":     ops(insert(1, rowsOf(api.MaxInsert-1)...), remove(1), insert(0, row(1, nil))),
		"all rows go":               ops(remove(1)),
		"as many terms as may be":   ops(remove(0, slices.Repeat([]api.Term{term(0, 1)}, api.MaxTerms)...)),
		"an empty Where":            ops(api.Op{Rows: list(row(1, nil)), Where: []api.Term{}}),
		"an empty list of rows":     ops(api.Op{Kind: api.OpDelete, Rows: [][]api.Value{}}),
		"a Value that is not asked": ops(remove(0, api.Term{Op: api.TermFull, Value: api.Value{Kind: 9}})),
	} {
		b := begin(t, four())
		if got := hear(b.c.Submit(math.MinInt, l, math.MaxInt)); len(got.replies) != 0 || len(got.messages) == 0 || !b.c.Busy() {
			t.Errorf("P21.2: %s: %+v", what, got)
		}
	}
}

func TestSubmitErrorsInOrder(t *testing.T) {
	b := begin(t, four())
	b.c.Submit(1, ops(remove(0)), 0)
	for range 2 {
		b.want("P21.2: it reads", hear(b.c.Submit(2, ops(remove(0)), 0)), replied(failed(2, api.ErrBusy)))
	}
	b.evicts(1)
	b.want("P21.2: one is out, and it reads", hear(b.c.Submit(2, ops(remove(0)), 0)), replied(failed(2, api.ErrBusy)))
	b.evicts(3)
	b.want("P21.2: too many are out, and it reads", hear(b.c.Submit(2, ops(remove(0)), 0)), replied(failed(2, api.ErrBusy)))
	b.want("P21.6", hear(b.c.GiveUp(), nil), replied(failed(1, api.ErrAborted)))
	b.d.Append("filler", make([]byte, b.d.Free()))
	b.want("P21.2: too many are out, and there is no room", hear(b.c.Submit(3, ops(remove(0)), 0)), replied(failed(3, api.ErrUnavailable)))
	b.d.Remove("filler")
	b.joins(3)
	b.d.Append("filler", make([]byte, b.d.Free()))
	b.want("P21.2: there is no room", hear(b.c.Submit(4, ops(insert(1, row(1))), 0)), replied(failed(4, api.ErrFull)))
	b.wantState("refused", 0, 0, false, 0, true, false, true, true)
	b.d.Remove("filler")
	b.want("P21.2: the next number", hear(b.c.Submit(5, ops(insert(1, row(1))), 0)).only(0), said(prepare(0, 2, 0, partsOf(four(), []full{{1, 0, row(1)}})[0])))
	b.want("P21.2: it prepares", hear(b.c.Submit(2, ops(remove(0)), 0)), replied(failed(2, api.ErrBusy)))
}

// The inserts are numbered through, whatever their tables are.
func TestPrepareInserts(t *testing.T) {
	b := begin(t, four())
	got := hear(b.c.Submit(3, ops(insert(1, row(5)), insert(0, row(1, "x"), row(2, nil)), insert(1, row(6))), 7))
	var want []api.Message
	for n, p := range partsOf(b.cat, []full{{1, 0, row(5)}, {0, 1, row(1, "x")}, {0, 2, row(2, nil)}, {1, 3, row(6)}}) {
		want = append(want, prepare(n, 1, 0, p))
	}
	b.want("P21.2: inserts", got, said(want...))
	for n := range 3 {
		b.takes(vote(n, 1, true))
	}
	b.want("P21.4: the last vote", b.take(vote(3, 1, true)), heard{[]api.Reply{done(3, 1)}, []api.Message{decide(0, 1, 1), decide(1, 1, 1), decide(2, 1, 1), decide(3, 1, 1)}})
	wantCommits(t, "P21.7", b.c.Commits(), api.Commit{Txn: 1, Epoch: 1, Ops: ops(insert(1, row(5)), insert(0, row(1, "x"), row(2, nil)), insert(1, row(6)))})
	b.want("P21.2: the next one's Base", hear(b.c.Submit(4, ops(insert(1, row(5))), 7)).only(0), said(prepare(0, 2, 1, partsOf(b.cat, []full{{1, 0, row(5)}})[0])))
}

// Who is out is not asked, and not told.
func TestPrepareMembers(t *testing.T) {
	b := begin(t, four())
	b.evicts(1)
	parts := partsOf(b.cat, []full{{0, 0, row(1, "x")}, {0, 1, row(2, "y")}, {1, 2, row(3)}})
	l := ops(insert(0, row(1, "x"), row(2, "y")), insert(1, row(3)))
	b.want("P21.2: to each member", hear(b.c.Submit(3, l, 0)), said(prepare(0, 1, 0, parts[0]), prepare(2, 1, 0, parts[2]), prepare(3, 1, 0, parts[3])))
	b.takes(vote(3, 1, true), vote(1, 1, true), vote(1, 1, false), vote(0, 1, true), vote(0, 1, true))
	b.want("P21.4: the last vote", b.take(vote(2, 1, true)), heard{[]api.Reply{done(3, 1)}, []api.Message{decide(0, 1, 1), decide(2, 1, 1), decide(3, 1, 1)}})
}

// What a transaction deletes from is read: each table once, by rising numbers, by the way that pick chooses.
func TestReads(t *testing.T) {
	b := begin(t, four())
	b.commits(1, insert(0, row(1, "x")))
	l := ops(remove(1, term(0, 5)), insert(0, row(9, nil)), remove(0), remove(1))
	asked := func(ask uint64, places ...api.Segment) []api.Message {
		var out []api.Message
		for _, a := range places {
			for j := range 2 {
				out = append(out, scan((a.Seg+b.cat.Projs[a.Proj].Shift+j)%4, ask, 1, a))
			}
		}
		return out
	}
	first := asked(first, at(0, 0), at(0, 1), at(3, 0), at(3, 1))
	b.want("P21.2: by the first way", hear(b.c.Submit(3, l, 0)), said(first...))
	b.wantState("it reads", 1, 0, true, 0, true, true, true, true)
	b.c.GiveUp()
	number := uint64(1) << 32
	for i, pick := range []int{1, -1, math.MaxInt} {
		b.want("P21.2: by the second way", hear(b.c.Submit(3, l, pick)), said(asked(number+2+uint64(i), at(1, 0), at(1, 1), at(2, 0), at(2, 1), at(3, 0), at(3, 1))...))
		b.c.GiveUp()
	}
	b.want("P21.2: of one table", hear(b.c.Submit(3, ops(remove(1, term(0, 5))), 1)), said(asked(number+5, at(3, 0), at(3, 1))...))
	b.c.GiveUp()
	b.evicts(3) // a probe's number
	b.want("P21.2: of a member", hear(b.c.Submit(3, ops(remove(1, term(0, 5))), 1)), said(scan(2, number+7, 1, at(3, 0)), scan(0, number+7, 1, at(3, 1))))
}

// What goes are the rows, as they were read, of which one of the table's predicates is true; what comes goes along.
func TestPrepareErases(t *testing.T) {
	b := begin(t, four())
	for txn := range uint64(3) {
		b.commits(txn+1, insert(1, row(1)))
	}
	l := ops(remove(1, term(0, 4)), insert(1, row(9)), remove(0, term(0, 1), api.Term{Column: 1, Op: api.TermFull}), remove(0, term(0, 2)), remove(0, term(0, 2), term(0, 2)), insert(0, row(8, "h")))
	b.c.Submit(3, l, 0)
	gone := ver(1, 0, "c", 1)
	gone.Deleted = 3 // at Last it is gone
	later := ver(1, 9, "c", 1)
	later.Deleted = 4
	b.takes(rowsTold(0, first, at(0, 0), ver(2, 7, "b", 1), ver(1, 3, nil, 1), later, gone, ver(4, 1, "b", 1)))
	b.takes(rowsTold(1, first, at(0, 1), ver(2, 6, "z", 2), ver(3, 0, "z", 3)))
	b.takes(rowsTold(2, first, at(3, 0), ver(3, 5, 4), ver(1, 1, 5)))
	got := b.take(rowsTold(0, first, at(3, 1), ver(2, 2, 4)))
	parts := partsOf(b.cat, []full{{1, 0, row(9)}, {0, 1, row(8, "h")}})
	for _, x := range []struct {
		full
		id api.RowId
	}{
		{full{0, 0, row(1, "c")}, name(1, 9)}, {full{0, 0, row(2, "z")}, name(2, 6)}, {full{0, 0, row(1, "b")}, name(2, 7)},
		{full{1, 0, row(4)}, name(2, 2)}, {full{1, 0, row(4)}, name(3, 5)},
	} {
		goes(b.cat, parts, x.full, x.id)
	}
	var want []api.Message
	for n, p := range parts {
		want = append(want, prepare(n, 4, 3, p))
	}
	b.want("P21.2: to prepare", got, said(want...))
	b.takes(rowsTold(0, first, at(3, 1), ver(2, 2, 4))) // it reads no more
	for n := range 3 {
		b.takes(vote(n, 4, true))
	}
	b.want("P21.4: the last vote", b.take(vote(3, 4, true)), heard{[]api.Reply{done(3, 4)}, []api.Message{decide(0, 4, 4), decide(1, 4, 4), decide(2, 4, 4), decide(3, 4, 4)}})
	if c := b.c.Commits(); !alikeOps(c[3].Ops, l) {
		t.Errorf("P21.7: the ops: %+v", c[3])
	}
}

// By the second way a row that has but one half is none.
func TestPrepareErasesOfTwo(t *testing.T) {
	b := begin(t, four())
	b.commits(1, insert(1, row(1)))
	b.c.Submit(3, ops(remove(0, api.Term{Column: 0, Op: api.TermAtLeast, Value: value.Int(2)})), 1)
	b.takes(rowsTold(1, first, at(1, 0), ver(1, 4, 1), ver(1, 2, 2)), rowsTold(2, first, at(1, 1), ver(1, 0, 3), ver(1, 1, 4)))
	b.takes(rowsTold(3, first, at(2, 0), ver(1, 0, "x"), ver(1, 4, "y")))
	got := b.take(rowsTold(0, first, at(2, 1), ver(1, 2, nil)))
	parts := make([]api.Part, 4)
	for _, x := range []struct {
		r  []api.Value
		id api.RowId
	}{{row(3, "x"), name(1, 0)}, {row(2, nil), name(1, 2)}} {
		goes(b.cat, parts, full{0, 0, x.r}, x.id)
	}
	var want []api.Message
	for n, p := range parts {
		want = append(want, prepare(n, 2, 1, p))
	}
	b.want("P21.2: to prepare", got, said(want...))
}
