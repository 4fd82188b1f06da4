package member_test

import (
	"math"
	"slices"
	"strconv"
	"testing"

	"hayloft/api"
	"hayloft/disk"
	"hayloft/member"
	"hayloft/store"
)

// most is the greatest epoch, number, attempt.
const most = uint64(math.MaxUint64)

func number(n int64) api.Value { return api.Value{Kind: api.KindInt, Int: n} }
func text(s string) api.Value  { return api.Value{Kind: api.KindText, Text: s} }

// two is a catalog of two nodes, so that the coordinator is 2; both nodes have both segments.
func two() api.Catalog {
	return api.Catalog{
		Nodes: 2, Segments: 2, K: 1,
		Tables: []api.Table{{Name: "t", Columns: []api.Column{{Name: "a", Kind: api.KindInt}}}},
		Projs:  []api.Projection{{Name: "p", Columns: []int{0}, Sort: []int{0}}},
	}
}

// four is one of four nodes, no two of which have the same segments.
func four() api.Catalog {
	return api.Catalog{
		Nodes: 4, Segments: 3, K: 1,
		Tables: []api.Table{{Name: "t", Columns: []api.Column{
			{Name: "a", Kind: api.KindInt},
			{Name: "b", Kind: api.KindText, Null: true},
		}}},
		Projs: []api.Projection{
			{Name: "p", Columns: []int{0, 1}, Sort: []int{1, 0}},
			{Name: "q", Columns: []int{1, 0}, Sort: []int{0}, By: 1, Shift: 2},
			{Name: "r", Columns: []int{0}},
		},
	}
}

// at0 and at1 are the segments of two.
var (
	at0 = api.Segment{}
	at1 = api.Segment{Seg: 1}
)

func name(epoch uint64, number uint32) api.RowId { return api.RowId{Epoch: epoch, Number: number} }

// row is one of so many columns, made of a number.
func row(columns int, n int64) []api.Value {
	return []api.Value{number(n), text(strconv.FormatInt(n%3, 10))}[:columns]
}

// ver is a version of a segment of two.
func ver(epoch uint64, id uint32, n int64, deleted uint64) api.Version {
	return api.Version{Id: name(epoch, id), Row: row(1, n), Deleted: deleted}
}

func insert(at api.Segment, id uint32, n int64) api.Insert {
	return api.Insert{At: at, Ver: ver(0, id, n, 0)}
}

func erase(at api.Segment, epoch uint64, id uint32) api.Erase {
	return api.Erase{At: at, Id: name(epoch, id)}
}

// coming is a part that inserts alone, going one that deletes alone.
func coming(l ...api.Insert) api.Part { return api.Part{Inserts: l} }

func going(l ...api.Erase) api.Part { return api.Part{Erases: l} }

// What the coordinator says, to node 0 of two.

func prepare(txn, base uint64, p api.Part) api.Message {
	return api.Message{Kind: api.MsgPrepare, From: 2, Txn: txn, Base: base, Part: p}
}

func decide(epoch, txn uint64) api.Message {
	return api.Message{Kind: api.MsgDecide, From: 2, Epoch: epoch, Txn: txn}
}

func markTo(mark uint64) api.Message { return api.Message{Kind: api.MsgMark, From: 2, Mark: mark} }

func probe(ask uint64) api.Message { return api.Message{Kind: api.MsgProbe, From: 2, Ask: ask} }

func scan(ask uint64, at api.Segment, epoch uint64) api.Message {
	return api.Message{Kind: api.MsgScan, From: 2, Ask: ask, At: at, Epoch: epoch}
}

func fetch(node int, attempt uint64, at api.Segment, since, epoch uint64) api.Message {
	return api.Message{Kind: api.MsgFetch, From: 2, Node: node, Attempt: attempt, At: at, Since: since, Epoch: epoch}
}

// copyOf is what node 1 of two says to node 0.
func copyOf(attempt uint64, at api.Segment, since, epoch, mark uint64, l ...api.Version) api.Message {
	return api.Message{Kind: api.MsgCopy, From: 1, Attempt: attempt, At: at, Since: since, Epoch: epoch, Mark: mark, Versions: l}
}

// What node 0 of two says to the coordinator.

func hello(ask, epoch uint64, wiped bool) api.Message {
	return api.Message{Kind: api.MsgHello, To: 2, Ask: ask, Epoch: epoch, Wiped: wiped}
}

func throughTold(epoch, mark uint64) api.Message {
	return api.Message{Kind: api.MsgThrough, To: 2, Epoch: epoch, Mark: mark}
}

func vote(txn uint64, yes bool) api.Message {
	return api.Message{Kind: api.MsgVote, To: 2, Txn: txn, Yes: yes}
}

func rowsTold(ask uint64, at api.Segment, l ...api.Version) api.Message {
	return api.Message{Kind: api.MsgRows, To: 2, Ask: ask, At: at, Versions: l}
}

func noRows(ask uint64, at api.Segment) api.Message {
	return api.Message{Kind: api.MsgRows, To: 2, Ask: ask, At: at, No: true}
}

func joined(attempt, epoch uint64) api.Message {
	return api.Message{Kind: api.MsgJoined, To: 2, Attempt: attempt, Epoch: epoch}
}

func alikeVersions(a, b []api.Version) bool {
	return slices.EqualFunc(a, b, func(x, y api.Version) bool {
		return x.Id == y.Id && x.Deleted == y.Deleted && slices.Equal(x.Row, y.Row)
	})
}

func alikeParts(a, b api.Part) bool {
	return slices.Equal(a.Erases, b.Erases) && slices.EqualFunc(a.Inserts, b.Inserts, func(x, y api.Insert) bool {
		return x.At == y.At && alikeVersions([]api.Version{x.Ver}, []api.Version{y.Ver})
	})
}

// plain is a message without its lists.
type plain struct {
	kind, from, to, node                        int
	txn, base, epoch, since, mark, ask, attempt uint64
	yes, no, wiped                              bool
	at                                          api.Segment
}

func plainOf(x api.Message) plain {
	return plain{x.Kind, x.From, x.To, x.Node, x.Txn, x.Base, x.Epoch, x.Since, x.Mark, x.Ask, x.Attempt, x.Yes, x.No, x.Wiped, x.At}
}

func alike(a, b []api.Message) bool {
	return slices.EqualFunc(a, b, func(x, y api.Message) bool {
		return plainOf(x) == plainOf(y) && alikeParts(x.Part, y.Part) && alikeVersions(x.Versions, y.Versions)
	})
}

// deepVersions, deep are copies that share no memory.
func deepVersions(l []api.Version) []api.Version {
	l = slices.Clone(l)
	for i := range l {
		l[i].Row = slices.Clone(l[i].Row)
	}
	return l
}

func deep(x api.Message) api.Message {
	x.Versions = deepVersions(x.Versions)
	x.Part.Inserts = slices.Clone(x.Part.Inserts)
	for i := range x.Part.Inserts {
		row := &x.Part.Inserts[i].Ver.Row
		*row = slices.Clone(*row)
	}
	x.Part.Erases = slices.Clone(x.Part.Erases)
	return x
}

func wantErrno(t *testing.T, what string, got, want api.Errno) {
	t.Helper()
	if got != want {
		t.Errorf("%s: answers %d, want %d", what, got, want)
	}
}

// wantSaid wants that this is what was said.
func wantSaid(t *testing.T, what string, got []api.Message, want ...api.Message) {
	t.Helper()
	if !alike(got, want) {
		t.Errorf("%s: says %+v, want %+v", what, got, want)
	}
}

func wantVersions(t *testing.T, what string, got []api.Version, want ...api.Version) {
	t.Helper()
	if !alikeVersions(got, want) {
		t.Errorf("%s: %+v, want %+v", what, got, want)
	}
}

func wantPrepared(t *testing.T, what string, m *member.Member, want ...uint64) {
	t.Helper()
	if got := m.Store().Prepared(); !slices.Equal(got, want) {
		t.Errorf("%s: prepared are %d, want %d", what, got, want)
	}
}

// open opens a member that must be.
func open(t *testing.T, what string, c api.Catalog, d *disk.Disk, node int) *member.Member {
	t.Helper()
	m, e := member.Open(c, d, node)
	if e != api.OK || m == nil {
		t.Fatalf("P20.2: %s: Open: %d", what, e)
	}
	return m
}

// formatted is a disk that is a node's.
func formatted(t *testing.T, c api.Catalog, node, room int) *disk.Disk {
	t.Helper()
	d := disk.New(room)
	wantErrno(t, "a disk", store.Format(d, member.Shapes(c, node)), api.OK)
	return d
}

// begin is node 0 of two, on a disk that is formatted, with some epochs, each of one row, 10 and its number, in turn in both segments.
func begin(t *testing.T, epochs uint64) (*member.Member, *disk.Disk) {
	t.Helper()
	d := formatted(t, two(), 0, 1<<20)
	m := open(t, "a formatted disk", two(), d, 0)
	for e := uint64(1); e <= epochs; e++ {
		grow(t, m, e)
	}
	return m, d
}

// grow is one more epoch.
func grow(t *testing.T, m *member.Member, epoch uint64) {
	t.Helper()
	p := coming(insert(api.Segment{Seg: int(epoch+1) % 2}, 0, 10+int64(epoch)))
	mark := m.Store().Mark()
	wantSaid(t, "P20.4: MsgPrepare", m.Take(prepare(epoch, epoch-1, p)), vote(epoch, true))
	wantSaid(t, "P20.4: MsgDecide", m.Take(decide(epoch, epoch)), throughTold(epoch, mark))
}

// grown is the row of an epoch of begin.
func grown(epoch uint64) api.Version { return ver(epoch, 0, 10+int64(epoch), 0) }

// kill makes a disk dead.
func kill(d *disk.Disk) {
	d.Arm(0)
	d.Append("x", nil)
}
