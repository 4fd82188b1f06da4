package coord_test

import (
	"slices"
	"testing"

	"hayloft/api"
	"hayloft/coord"
	"hayloft/disk"
	"hayloft/value"
)

// spoil writes over all that stands in a list, and into the spare room behind its end.
func spoil[T any](l []T) {
	l = l[:cap(l)]
	clear(l)
}

func spoilRows(l [][]api.Value) {
	for _, row := range l {
		for i := range row[:cap(row)] {
			row[:cap(row)][i] = value.Text("spoilt")
		}
	}
	spoil(l)
}

func spoilOps(l []api.Op) {
	for i := range l {
		spoilRows(l[i].Rows)
		spoil(l[i].Where)
	}
	spoil(l)
}

func spoilHeard(h heard) {
	for i := range h.replies {
		spoilRows(h.replies[i].Rows)
	}
	for i := range h.messages {
		p := h.messages[i].Part
		for k := range p.Inserts {
			spoilRows([][]api.Value{p.Inserts[k].Ver.Row})
		}
		spoil(p.Inserts)
		spoil(p.Erases)
	}
	spoil(h.replies)
	spoil(h.messages)
}

// roomy is a list with spare room behind its end, in which something stands.
func roomy[T any](l []T, rest T) []T {
	l = append(slices.Clone(l), rest, rest)
	return l[:len(l)-2]
}

// wantRest wants that what stands behind a list's end is as it was.
func wantRest[T any](t *testing.T, what string, l []T, same func(T) bool) {
	t.Helper()
	for _, x := range l[len(l) : len(l)+2] {
		if !same(x) {
			t.Errorf("R5: %s: what was behind its end has changed: %+v", what, x)
		}
	}
}

func deepRows(l [][]api.Value) [][]api.Value {
	var out [][]api.Value
	for _, row := range l {
		out = append(out, slices.Clone(row))
	}
	return out
}

// deepHeard shares nothing with what was heard.
func deepHeard(h heard) heard {
	h.replies, h.messages = slices.Clone(h.replies), slices.Clone(h.messages)
	for i := range h.replies {
		h.replies[i].Rows = deepRows(h.replies[i].Rows)
	}
	for i := range h.messages {
		p := &h.messages[i].Part
		p.Inserts, p.Erases = slices.Clone(p.Inserts), slices.Clone(p.Erases)
		for k := range p.Inserts {
			p.Inserts[k].Ver.Row = slices.Clone(p.Inserts[k].Ver.Row)
		}
	}
	return h
}

func TestSubmitKeepsNothing(t *testing.T) {
	b := begin(t, two())
	made := func() []api.Op {
		return ops(insert(0, row(7), row(8)), remove(0, term(0, 5)), insert(0, row(9)))
	}
	l := roomy(made(), insert(0, row(99)))
	l[0].Rows, l[1].Where = roomy(l[0].Rows, row(99)), roomy(l[1].Where, term(0, 99))
	l[0].Rows[0] = roomy(l[0].Rows[0], value.Int(99))
	b.c.Submit(3, l, 0)
	if !alikeOps(l, made()) {
		t.Errorf("R5: Submit: what was handed in has changed: %+v", l)
	}
	wantRest(t, "ops", l, func(o api.Op) bool { return alikeOps(ops(o), ops(insert(0, row(99)))) })
	wantRest(t, "rows", l[0].Rows, func(r []api.Value) bool { return slices.Equal(r, row(99)) })
	wantRest(t, "a row", l[0].Rows[0], func(v api.Value) bool { return v == value.Int(99) })
	wantRest(t, "terms", l[1].Where, func(x api.Term) bool { return x == term(0, 99) })
	spoilOps(l)
	part := partsOf(b.cat, []full{{0, 0, row(7)}, {0, 1, row(8)}, {0, 2, row(9)}})[0]
	part.Erases = []api.Erase{{At: at(0, 0), Id: name(0, 4)}}
	b.want("R5: what was handed in is kept", b.take(rowsTold(0, first, at(0, 0), ver(0, 4, 5), ver(0, 5, 6))), said(prepare(0, 1, 0, part), prepare(1, 1, 0, part)))
	b.takes(vote(0, 1, true))
	b.take(vote(1, 1, true))
	wantCommits(t, "R5: what was handed in is kept", b.c.Commits(), api.Commit{Txn: 1, Epoch: 1, Ops: made()})

	l = ops(insert(0, row(7))) // also where it does not read
	b.c.Submit(3, l, 0)
	spoilOps(l)
	b.takes(vote(0, 2, true))
	b.take(vote(1, 2, true))
	wantCommits(t, "R5: what was handed in is kept", b.c.Commits()[1:], api.Commit{Txn: 2, Epoch: 2, Ops: ops(insert(0, row(7)))})
}

// long is a query with something in each of its lists.
func long() api.Query {
	return api.Query{
		Where: []api.Term{{Column: 0, Op: api.TermAbove, Value: value.Int(1)}}, Join: true, Right: 1, Group: true, By: []int{0, 1},
		Aggs: []api.Agg{{Op: api.AggSum, Column: 2}, {}}, Order: []api.Order{{Column: 1, Down: true}, {Column: 0}},
	}
}

func alikeQueries(a, b api.Query) bool {
	return slices.Equal(a.Where, b.Where) && slices.Equal(a.Columns, b.Columns) && slices.Equal(a.By, b.By) && slices.Equal(a.Aggs, b.Aggs) && slices.Equal(a.Order, b.Order) &&
		a.Table == b.Table && a.Join == b.Join && a.Right == b.Right && a.LeftOn == b.LeftOn && a.RightOn == b.RightOn && a.Group == b.Group && a.Limit == b.Limit
}

func TestAskKeepsNothing(t *testing.T) {
	tells := func(b *bench) heard {
		b.takes(rowsTold(0, first, at(0, 0), ver(0, 0, "x", 2), ver(0, 1, "y", 3), ver(0, 3, "z", 1)), rowsTold(0, first, at(0, 1)), rowsTold(0, first, at(3, 1), ver(0, 4, 2), ver(0, 5, 3), ver(0, 6, 3)))
		return b.take(rowsTold(2, first, at(3, 0)))
	}
	b := begin(t, four())
	b.c.Ask(3, long(), 0, 0)
	want := tells(b)
	if len(want.replies) != 1 || len(want.replies[0].Rows) != 2 {
		t.Fatalf("P21.4: an answer: %+v", want)
	}
	q := long()
	q.Where, q.By = roomy(q.Where, term(0, 99)), roomy(q.By, 99)
	q.Aggs, q.Order = roomy(q.Aggs, api.Agg{Column: 99}), roomy(q.Order, api.Order{Column: 99})
	b = begin(t, four())
	b.c.Ask(3, q, 0, 0)
	if !alikeQueries(q, long()) {
		t.Errorf("R5: Ask: what was handed in has changed: %+v", q)
	}
	wantRest(t, "Where", q.Where, func(x api.Term) bool { return x == term(0, 99) })
	wantRest(t, "By", q.By, func(n int) bool { return n == 99 })
	wantRest(t, "Aggs", q.Aggs, func(x api.Agg) bool { return x.Column == 99 })
	wantRest(t, "Order", q.Order, func(x api.Order) bool { return x.Column == 99 })
	spoil(q.Where)
	spoil(q.By)
	spoil(q.Aggs)
	spoil(q.Order)
	b.want("R5: the query that was handed in is kept", tells(b), want)

	b = begin(t, two())
	plain := query(0)
	b.c.Ask(3, plain, 0, 0)
	plain.Columns[0] = 7
	b.want("R5: the columns that were handed in are kept", b.take(rowsTold(0, first, at(0, 0), ver(0, 0, 2))), replied(answered(3, 0, row(2))))
}

func TestTakeKeepsNothing(t *testing.T) {
	b := begin(t, four())
	b.c.Ask(3, query(1), 0, 0)
	b.c.Submit(4, ops(remove(1)), 0)
	made := func() []api.Version { return []api.Version{ver(0, 2, 7), ver(0, 1, 8)} }
	for _, ask := range []uint64{first, first + 1} {
		l := roomy(made(), ver(0, 9, 99))
		l[0].Row = roomy(l[0].Row, value.Int(99))
		b.takes(rowsTold(0, ask, at(3, 1), l...))
		if !slices.EqualFunc(l, made(), alikeVersion) {
			t.Errorf("R5: MsgRows: what was handed in has changed: %+v", l)
		}
		wantRest(t, "Versions", l, func(v api.Version) bool { return alikeVersion(v, ver(0, 9, 99)) })
		wantRest(t, "a row", l[0].Row, func(v api.Value) bool { return v == value.Int(99) })
		for _, v := range l[:cap(l)] {
			spoilRows([][]api.Value{v.Row})
		}
		spoil(l)
	}
	last := []api.Version{ver(0, 3, 5)}
	b.want("R5: Versions that were handed in are kept", b.take(rowsTold(0, first, at(3, 0), last...)), replied(answered(3, 0, row(5), row(7), row(8))))
	if !alikeVersion(last[0], ver(0, 3, 5)) {
		t.Errorf("R5: MsgRows: what was handed in has changed: %+v", last)
	}
	got := b.take(rowsTold(0, first+1, at(3, 0), last...))
	names := map[api.RowId]bool{}
	for _, x := range got.messages {
		for _, gone := range x.Part.Erases {
			names[gone.Id] = true
		}
	}
	if len(names) != 3 || !names[name(0, 1)] || !names[name(0, 2)] || !names[name(0, 3)] {
		t.Errorf("R5: Versions that were handed in are kept: %+v", got)
	}
}

// What is said is new memory, each time; what is said to one node shares none with what is said to another one.
func TestMessagesAreNew(t *testing.T) {
	l := ops(insert(0, row(7)), insert(0, row(8)), remove(0))
	b := begin(t, two())
	b.c.Submit(3, l, 0)
	said := b.take(rowsTold(1, first, at(0, 0), ver(0, 3, 5), ver(0, 4, 5)))
	want := deepHeard(said)
	if len(want.messages) != 2 || len(want.messages[0].Part.Inserts) != 2 || len(want.messages[0].Part.Erases) != 2 {
		t.Fatalf("P21.2: to prepare: %+v", want)
	}
	spoilHeard(heard{messages: said.messages[:1:1]})
	wantHeard(t, "R5: what was said to 0 was written over", heard{messages: said.messages[1:]}, heard{messages: want.messages[1:]})
	for range 2 {
		said = b.tick()
		wantHeard(t, "R5: what was said was written over", said, want)
		spoilHeard(said)
	}
	b.takes(vote(0, 1, true))
	decided := b.take(vote(1, 1, true))
	spoilHeard(decided)
	wantCommits(t, "R5: what was said was written over", b.c.Commits(), api.Commit{Txn: 1, Epoch: 1, Ops: l})
	again := b.tick()
	b.want("R5: what was said was written over", again, heard{messages: decides(1, 1, 0, 1)})
	spoilHeard(again)
	b.want("R5: what was said was written over", b.tick(), heard{messages: decides(1, 1, 0, 1)})

	b = begin(t, two()) // rows that come alone
	b.c.Submit(3, l[:2], 0)
	spoilHeard(b.tick())
	b.takes(vote(0, 1, true))
	b.take(vote(1, 1, true))
	wantCommits(t, "R5: what was said was written over", b.c.Commits(), api.Commit{Txn: 1, Epoch: 1, Ops: l[:2]})
}

// What a query is answered is new memory, though others hear of the same rows.
func TestAnswersAreNew(t *testing.T) {
	b := begin(t, two())
	self := api.Query{Join: true, Columns: []int{0, 1}}
	for i, q := range []api.Query{query(0), query(0), self, {Columns: []int{0, 0}, Order: []api.Order{{}}}} {
		b.c.Ask(i, q, 0, 0)
	}
	l := []api.Version{ver(0, 1, 7), ver(0, 2, 8)}
	for i, want := range [][][]api.Value{list(row(7), row(8)), list(row(7), row(8)), list(row(7, 7), row(8, 8)), list(row(7, 7), row(8, 8))} {
		got := b.take(rowsTold(0, first+uint64(i), at(0, 0), l...))
		b.want("P21.4: an answer", got, replied(answered(i, 0, want...)))
		spoilRows(got.replies[0].Rows[:1:1])
		if !alikeRows(got.replies[0].Rows[1:], want[1:]) {
			t.Errorf("R5: two rows of an answer share memory: %+v", got.replies[0].Rows)
		}
		spoilHeard(got)
		if !slices.EqualFunc(l, []api.Version{ver(0, 1, 7), ver(0, 2, 8)}, alikeVersion) {
			t.Errorf("R5: an answer shares memory with what was handed in: %+v", l)
		}
	}
}

func TestStateIsNew(t *testing.T) {
	b := grown(t, two(), 2)
	b.evicts(1)
	for range 2 {
		l := b.c.Commits()
		wantCommits(t, "R5: Commits was written over", l, api.Commit{Txn: 1, Epoch: 1, Ops: ops(insert(0, row(0)))}, api.Commit{Txn: 2, Epoch: 2, Ops: ops(insert(0, row(1)))})
		for i := range l {
			spoilOps(l[i].Ops)
		}
		spoil(l)
		if m := b.c.Members(); len(m) != 2 || !m[0] || m[1] {
			t.Error("R5: Members was written over:", m)
		} else {
			m[0], m[1] = false, true
		}
	}
	b.want("R5: Members was written over", b.tick(), said(missed(0, 1, 2)...))
	wantCommits(t, "R5: the log was written over", b.anew().c.Commits(), api.Commit{Txn: 1, Epoch: 1, Ops: ops(insert(0, row(0)))}, api.Commit{Txn: 2, Epoch: 2, Ops: ops(insert(0, row(1)))})
}

// The catalog that was handed in may be written over; Open does not change it.
func TestCatalogIsNotKept(t *testing.T) {
	cat := four()
	cat.Tables, cat.Projs = roomy(cat.Tables, api.Table{Name: "x"}), roomy(cat.Projs, api.Projection{Name: "x"})
	c, e := coord.Open(cat, disk.New(room))
	wantErrno(t, "P21.1: Open", e, api.OK)
	want := four()
	for i, table := range cat.Tables {
		if table.Name != want.Tables[i].Name || !slices.Equal(table.Columns, want.Tables[i].Columns) {
			t.Errorf("R5: Open: what was handed in has changed: %+v", table)
		}
	}
	for i, p := range cat.Projs {
		if p.Name != want.Projs[i].Name || !slices.Equal(p.Columns, want.Projs[i].Columns) || !slices.Equal(p.Sort, want.Projs[i].Sort) {
			t.Errorf("R5: Open: what was handed in has changed: %+v", p)
		}
	}
	wantRest(t, "Tables", cat.Tables, func(x api.Table) bool { return x.Name == "x" })
	wantRest(t, "Projs", cat.Projs, func(x api.Projection) bool { return x.Name == "x" })
	for i := range cat.Tables {
		spoil(cat.Tables[i].Columns)
	}
	for i := range cat.Projs {
		spoil(cat.Projs[i].Columns)
		for k := range cat.Projs[i].Sort {
			cat.Projs[i].Sort[k] = 99
		}
	}
	spoil(cat.Tables)
	spoil(cat.Projs)
	spoiled, fine := &bench{t: t, cat: four(), c: c}, begin(t, four())
	for _, b := range []*bench{spoiled, fine} {
		b.commits(1, insert(0, row(1, "x")), insert(1, row(2)))
		b.c.Ask(2, long(), 0, 1)
		b.c.Submit(3, ops(remove(0), insert(1, row(5)), insert(0, row(6, nil))), 0)
	}
	wantHeard(t, "R5: the catalog that was handed in is kept", spoiled.tick(), fine.tick())
	for _, seg := range []int{0, 1} {
		x := rowsTold(0, first+1, at(0, seg), ver(1, 0, "x", 1))
		wantHeard(t, "R5: the catalog that was handed in is kept", spoiled.take(x), fine.take(x))
	}
	spoiled.evicts(0)
	fine.evicts(0)
	wantHeard(t, "R5: the catalog that was handed in is kept", spoiled.take(hello(0, 0, 0, true)), fine.take(hello(0, 0, 0, true)))
}

// A nil list and an empty one are the same, handed in.
func TestNothingIsNil(t *testing.T) {
	cat := two()
	cat.Projs[0].Sort = []int{}
	b := begin(t, cat)
	part := partsOf(cat, []full{{0, 0, row(7)}})[0]
	l := []api.Op{{Rows: list(row(7)), Where: []api.Term{}}, {Kind: api.OpDelete, Rows: [][]api.Value{}, Where: []api.Term{}}}
	b.want("R4: Submit", hear(b.c.Submit(3, l, 0)), said(scan(0, first, 0, at(0, 0)), scan(1, first, 0, at(0, 0))))
	b.want("R4: MsgRows", b.take(rowsTold(0, first, at(0, 0), []api.Version{}...)), said(prepare(0, 1, 0, part), prepare(1, 1, 0, part)))
	b.takes(vote(0, 1, true))
	b.take(vote(1, 1, true))
	wantCommits(t, "R4: Commits", b.c.Commits(), api.Commit{Txn: 1, Epoch: 1, Ops: ops(insert(0, row(7)), remove(0))})
	q := api.Query{Columns: []int{0}, Where: []api.Term{}, By: []int{}, Aggs: []api.Agg{}, Order: []api.Order{}}
	b.want("R4: Ask", hear(b.c.Ask(3, q, 0, 0)), said(scan(0, first+1, 1, at(0, 0)), scan(1, first+1, 1, at(0, 0))))
	b.want("R4: MsgRows", b.take(rowsTold(0, first+1, at(0, 0), []api.Version{}...)), replied(answered(3, 1)))
	b.want("R4: Ask", hear(b.c.Ask(3, api.Query{Group: true, Columns: []int{}, Aggs: []api.Agg{{}}}, 0, 0)), said(scan(0, first+2, 1, at(0, 0)), scan(1, first+2, 1, at(0, 0))))
}

// Two coordinators that hear the same tell the same, whatever a third one does.
func TestOneAnswer(t *testing.T) {
	a, b, other := begin(t, four()), begin(t, four()), begin(t, four())
	other.commits(1, insert(1, row(1)))
	other.evicts(2)
	for range 2 {
		for i, l := range [][]api.Op{ops(insert(0, row(1, "x"))), ops(remove(1), remove(0)), ops(insert(1, row(5)), remove(1))} {
			wantHeard(t, "R6: Submit", hear(a.c.Submit(i, l, i)), hear(b.c.Submit(i, l, i)))
			wantHeard(t, "R6: Ask", hear(a.c.Ask(i, long(), 0, i)), hear(b.c.Ask(i, long(), 0, i)))
			for n := range 4 {
				for _, x := range []api.Message{vote(n, uint64(i)+1, true), rowsTold(n, first, at(0, n%2), ver(0, 1, "x", 1)), hello(n, 0, 0, n == 1), hello(n, first+1, 0, true)} {
					wantHeard(t, "R6: Take", a.take(x), b.take(x))
				}
			}
			wantHeard(t, "R6: Tick", a.tick(), b.tick())
		}
		wantHeard(t, "R6: GiveUp", hear(a.c.GiveUp(), nil), hear(b.c.GiveUp(), nil))
	}
	other.wantState("R6: another one", 1, 0, false, 0, true, true, false, true)
}
