package coord_test

import (
	"math"
	"slices"
	"testing"

	"hayloft/api"
	"hayloft/coord"
	"hayloft/disk"
	"hayloft/rows"
	"hayloft/value"
)

// most is the greatest epoch, mark, number.
const most = uint64(math.MaxUint64)

// room is enough of it.
const room = 1 << 20

// first is the first fresh number of a journal's first run.
const first = uint64(1)<<32 + 1

// two is the chapter's example: the coordinator is 2, and both nodes have the one segment.
func two() api.Catalog {
	return api.Catalog{
		Nodes: 2, Segments: 1, K: 1,
		Tables: []api.Table{{Name: "t", Columns: []api.Column{{Name: "a", Kind: api.KindInt}}}},
		Projs:  []api.Projection{{Name: "p", Columns: []int{0}}},
	}
}

// four has two tables: the first one has two ways (of its projection 0, or of 1 and 2), the second one, whose projection is 3, has one. The coordinator is 4.
func four() api.Catalog {
	return api.Catalog{
		Nodes: 4, Segments: 2, K: 1,
		Tables: []api.Table{
			{Name: "t", Columns: []api.Column{{Name: "a", Kind: api.KindInt}, {Name: "b", Kind: api.KindText, Null: true}}},
			{Name: "u", Columns: []api.Column{{Name: "c", Kind: api.KindInt}}},
		},
		Projs: []api.Projection{
			{Name: "p", Columns: []int{1, 0}, Sort: []int{0}},
			{Name: "q", Columns: []int{0}, Shift: 1},
			{Name: "r", Columns: []int{1}, By: 1, Shift: 3},
			{Name: "s", Table: 1, Columns: []int{0}, Shift: 2},
		},
	}
}

func at(proj, seg int) api.Segment { return api.Segment{Proj: proj, Seg: seg} }

// row is one of ints, texts and nulls.
func row(l ...any) []api.Value {
	var out []api.Value
	for _, x := range l {
		switch v := x.(type) {
		case int:
			out = append(out, value.Int(int64(v)))
		case string:
			out = append(out, value.Text(v))
		case bool:
			out = append(out, value.Bool(v))
		case nil:
			out = append(out, value.Null())
		}
	}
	return out
}

func list(l ...[]api.Value) [][]api.Value { return l }

func name(epoch uint64, number uint32) api.RowId { return api.RowId{Epoch: epoch, Number: number} }

func ver(epoch uint64, number uint32, l ...any) api.Version {
	return api.Version{Id: name(epoch, number), Row: row(l...)}
}

// insert and remove are ops; ops is a list of them.
func insert(table int, l ...[]api.Value) api.Op { return api.Op{Table: table, Rows: l} }

func remove(table int, where ...api.Term) api.Op {
	return api.Op{Kind: api.OpDelete, Table: table, Where: where}
}

func ops(l ...api.Op) []api.Op { return l }

// term is that a column is like an int.
func term(column, n int) api.Term { return api.Term{Column: column, Value: value.Int(int64(n))} }

// What a node says. To whom is written where it is said (bench).

func vote(from int, txn uint64, yes bool) api.Message {
	return api.Message{Kind: api.MsgVote, From: from, Txn: txn, Yes: yes}
}

func rowsTold(from int, ask uint64, at api.Segment, l ...api.Version) api.Message {
	return api.Message{Kind: api.MsgRows, From: from, Ask: ask, At: at, Versions: l}
}

func through(from int, epoch, mark uint64) api.Message {
	return api.Message{Kind: api.MsgThrough, From: from, Epoch: epoch, Mark: mark}
}

func hello(from int, ask, epoch uint64, wiped bool) api.Message {
	return api.Message{Kind: api.MsgHello, From: from, Ask: ask, Epoch: epoch, Wiped: wiped}
}

func joined(from int, attempt, epoch uint64) api.Message {
	return api.Message{Kind: api.MsgJoined, From: from, Attempt: attempt, Epoch: epoch}
}

// What the coordinator says. From whom is written where it is wanted.

func prepare(to int, txn, base uint64, p api.Part) api.Message {
	return api.Message{Kind: api.MsgPrepare, To: to, Txn: txn, Base: base, Part: p}
}

func decide(to int, epoch, txn uint64) api.Message {
	return api.Message{Kind: api.MsgDecide, To: to, Epoch: epoch, Txn: txn}
}

func scan(to int, ask, epoch uint64, at api.Segment) api.Message {
	return api.Message{Kind: api.MsgScan, To: to, Ask: ask, Epoch: epoch, At: at}
}

func fetch(to, node int, attempt uint64, at api.Segment, since, epoch uint64) api.Message {
	return api.Message{Kind: api.MsgFetch, To: to, Node: node, Attempt: attempt, At: at, Since: since, Epoch: epoch}
}

func markTo(to int, mark uint64) api.Message {
	return api.Message{Kind: api.MsgMark, To: to, Mark: mark}
}

func probe(to int, ask uint64) api.Message {
	return api.Message{Kind: api.MsgProbe, To: to, Ask: ask}
}

// What a client is told.

func done(to int, epoch uint64) api.Reply {
	return api.Reply{To: to, Kind: api.ReplyDone, Epoch: epoch}
}

func failed(to int, code api.Errno) api.Reply {
	return api.Reply{To: to, Kind: api.ReplyFailed, Code: code}
}

func answered(to int, epoch uint64, l ...[]api.Value) api.Reply {
	return api.Reply{To: to, Kind: api.ReplyRows, Epoch: epoch, Rows: l}
}

func refused(to int, code api.Errno) api.Reply {
	return api.Reply{To: to, Kind: api.ReplyError, Code: code}
}

// heard is what a call tells.
type heard struct {
	replies  []api.Reply
	messages []api.Message
}

func hear(replies []api.Reply, messages []api.Message) heard { return heard{replies, messages} }

// replied and said are what wants one of the two alone.
func replied(l ...api.Reply) heard { return heard{replies: l} }

func said(l ...api.Message) heard { return heard{messages: l} }

func silence() heard { return heard{} }

// bench is a coordinator on its disk.
type bench struct {
	t   *testing.T
	cat api.Catalog
	d   *disk.Disk
	c   *coord.Coord
}

func onDisk(t *testing.T, cat api.Catalog, d *disk.Disk) *bench {
	t.Helper()
	c, e := coord.Open(cat, d)
	if e != api.OK || c == nil {
		t.Fatal("P21.1: Open:", e)
	}
	return &bench{t: t, cat: cat, d: d, c: c}
}

func begin(t *testing.T, cat api.Catalog) *bench {
	t.Helper()
	return onDisk(t, cat, disk.New(room))
}

// anew is the coordinator that is found behind a crash.
func (b *bench) anew(keep ...int) *bench {
	b.t.Helper()
	return onDisk(b.t, b.cat, b.d.Crash(keep))
}

func (b *bench) take(x api.Message) heard {
	x.To = b.cat.Nodes
	return hear(b.c.Take(x))
}

// takes wants that nothing is told behind some messages.
func (b *bench) takes(l ...api.Message) {
	b.t.Helper()
	for _, x := range l {
		b.want("P21.4: nothing is told", b.take(x), silence())
	}
}

func (b *bench) tick() heard { return hear(b.c.Tick()) }

func (b *bench) want(what string, got, want heard) {
	b.t.Helper()
	for i := range want.messages {
		want.messages[i].From = b.cat.Nodes
	}
	wantHeard(b.t, what, got, want)
}

// commits does ops that insert alone: as the next epoch, with the next number, all members voting Yes.
func (b *bench) commits(txn uint64, l ...api.Op) {
	b.t.Helper()
	epoch := b.c.Last() + 1
	b.c.Submit(0, l, 0)
	var got heard
	for n, is := range b.c.Members() {
		if is {
			got = b.take(vote(n, txn, true))
		}
	}
	wantReplies(b.t, "P21.2: a transaction", got.replies, done(0, epoch))
}

// evicts makes a node out: it says that it lacks something, and that again when it is probed.
func (b *bench) evicts(nodes ...int) {
	b.t.Helper()
	for _, n := range nodes {
		got := b.take(hello(n, 0, 0, true))
		if len(got.messages) != 1 || got.messages[0].Kind != api.MsgProbe {
			b.t.Fatalf("P21.4: a probe: %+v", got)
		}
		b.take(hello(n, got.messages[0].Ask, 0, true))
		if b.c.Members()[n] {
			b.t.Fatal("P21.4: it is not out:", n)
		}
	}
}

// joins makes a node that is out a member.
func (b *bench) joins(n int) {
	b.t.Helper()
	got := b.take(hello(n, 0, 0, true))
	if len(got.messages) == 0 {
		b.t.Fatal("P21.4: nothing is fetched for", n)
	}
	b.takes(joined(n, got.messages[0].Attempt, b.c.Last()))
	if !b.c.Members()[n] {
		b.t.Fatal("P21.4: it is no member:", n)
	}
}

// wantState wants what the coordinator tells of itself.
func (b *bench) wantState(what string, last, mark uint64, busy bool, asked int, members ...bool) {
	b.t.Helper()
	if b.c.Last() != last || b.c.History() != mark || b.c.Busy() != busy || b.c.Asked() != asked || !slices.Equal(b.c.Members(), members) || len(b.c.Commits()) != int(last) {
		b.t.Errorf("P21.7: %s: Last %d, History %d, Busy %t, Asked %d, Members %t, want %d, %d, %t, %d, %t; %d commits",
			what, b.c.Last(), b.c.History(), b.c.Busy(), b.c.Asked(), b.c.Members(), last, mark, busy, asked, members, len(b.c.Commits()))
	}
}

func wantErrno(t *testing.T, what string, got, want api.Errno) {
	t.Helper()
	if got != want {
		t.Errorf("%s: answers %d, want %d", what, got, want)
	}
}

func wantHeard(t *testing.T, what string, got, want heard) {
	t.Helper()
	wantReplies(t, what, got.replies, want.replies...)
	if !alikeMessages(got.messages, want.messages) {
		t.Errorf("%s: says %+v, want %+v", what, got.messages, want.messages)
	}
}

func wantReplies(t *testing.T, what string, got []api.Reply, want ...api.Reply) {
	t.Helper()
	if !alikeReplies(got, want) {
		t.Errorf("%s: replies %+v, want %+v", what, got, want)
	}
}

func wantCommits(t *testing.T, what string, got []api.Commit, want ...api.Commit) {
	t.Helper()
	if !slices.EqualFunc(got, want, func(x, y api.Commit) bool {
		return x.Txn == y.Txn && x.Epoch == y.Epoch && alikeOps(x.Ops, y.Ops)
	}) {
		t.Errorf("%s: commits %+v, want %+v", what, got, want)
	}
}

func alikeRows(a, b [][]api.Value) bool { return slices.EqualFunc(a, b, slices.Equal) }

func alikeOps(a, b []api.Op) bool {
	return slices.EqualFunc(a, b, func(x, y api.Op) bool {
		return x.Kind == y.Kind && x.Table == y.Table && slices.Equal(x.Where, y.Where) && alikeRows(x.Rows, y.Rows)
	})
}

func alikeReplies(a, b []api.Reply) bool {
	return slices.EqualFunc(a, b, func(x, y api.Reply) bool {
		return x.To == y.To && x.Kind == y.Kind && x.Code == y.Code && x.Epoch == y.Epoch && alikeRows(x.Rows, y.Rows)
	})
}

func alikeVersion(x, y api.Version) bool {
	return x.Id == y.Id && x.Deleted == y.Deleted && slices.Equal(x.Row, y.Row)
}

func alikeParts(a, b api.Part) bool {
	return slices.Equal(a.Erases, b.Erases) && slices.EqualFunc(a.Inserts, b.Inserts, func(x, y api.Insert) bool {
		return x.At == y.At && alikeVersion(x.Ver, y.Ver)
	})
}

// plain is a message without its lists.
type plain struct {
	kind, from, to, node                        int
	txn, base, epoch, since, mark, ask, attempt uint64
	yes, no, wiped                              bool
	at                                          api.Segment
}

func plainOf(x api.Message) plain {
	return plain{x.Kind, x.From, x.To, x.Node, x.Txn, x.Base, x.Epoch, x.Since, x.Mark, x.Ask, x.Attempt, x.Yes, x.No, x.Wiped, x.At}
}

func alikeMessages(a, b []api.Message) bool {
	return slices.EqualFunc(a, b, func(x, y api.Message) bool {
		return plainOf(x) == plainOf(y) && alikeParts(x.Part, y.Part) && slices.EqualFunc(x.Versions, y.Versions, alikeVersion)
	})
}

// kill makes a disk dead.
func kill(d *disk.Disk) {
	d.Arm(0)
	d.Append("x", nil)
}

// ends are numbers of no place.
func ends() []int { return []int{-1, -2, math.MinInt, math.MaxInt, 1 << 32} }

// full is a row of a table, with its number.
type full struct {
	table  int
	number uint32
	row    []api.Value
}

// partsOf is what the nodes must do for rows to come: as the document's words say it.
func partsOf(c api.Catalog, l []full) []api.Part {
	parts := make([]api.Part, c.Nodes)
	for _, f := range l {
		for proj, p := range c.Projs {
			if p.Table != f.table {
				continue
			}
			var r []api.Value
			for _, column := range p.Columns {
				r = append(r, f.row[column])
			}
			seg := rows.Segment(f.row[p.By], c.Segments)
			for j := range c.K + 1 {
				n := (seg + p.Shift + j) % c.Nodes
				parts[n].Inserts = append(parts[n].Inserts, api.Insert{At: at(proj, seg), Ver: api.Version{Id: name(0, f.number), Row: r}})
			}
		}
	}
	return parts
}

// goes adds to parts what the nodes must do for a row, of that name, to go.
func goes(c api.Catalog, parts []api.Part, f full, id api.RowId) {
	for n, p := range partsOf(c, []full{f}) {
		for _, x := range p.Inserts {
			parts[n].Erases = append(parts[n].Erases, api.Erase{At: x.At, Id: id})
		}
	}
}
