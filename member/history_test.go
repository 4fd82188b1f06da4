package member_test

import (
	"math/rand/v2"
	"slices"
	"strconv"
	"testing"

	"hayloft/api"
	"hayloft/catalog"
	"hayloft/disk"
	"hayloft/member"
	"hayloft/mover"
)

// history is what a cluster's transactions have come to, every row that ever came.
type history struct {
	c    api.Catalog
	last uint64
	rows []lived
}

// lived is a row of the table, and the epoch at which it was deleted.
type lived struct {
	catalog.Full
	deleted uint64
}

// draw draws a transaction: what comes, and the places of what goes.
func (h *history) draw(r *rand.Rand) ([]catalog.Full, []int) {
	var come []catalog.Full
	for i := range r.IntN(4) {
		n := int64(r.IntN(40))
		come = append(come, catalog.Full{Id: name(0, uint32(i)), Row: []api.Value{number(n), text(strconv.FormatInt(n%5, 10))}})
	}
	var gone []int
	for i, x := range h.rows {
		if x.deleted == 0 && r.IntN(8) == 0 {
			gone = append(gone, i)
		}
	}
	return come, gone
}

// parts are what a transaction does at each node.
func (h *history) parts(come []catalog.Full, places []int) []api.Part {
	var erases []catalog.Full
	for _, i := range places {
		erases = append(erases, h.rows[i].Full)
	}
	return catalog.Parts(h.c, come, erases)
}

// commit makes a transaction the next epoch.
func (h *history) commit(come []catalog.Full, places []int) {
	h.last++
	for _, i := range places {
		h.rows[i].deleted = h.last
	}
	for _, x := range come {
		x.Id.Epoch = h.last
		h.rows = append(h.rows, lived{Full: x})
	}
}

// versions is what came to a segment up to an epoch, as it is told then, but what was deleted up to a mark.
func (h *history) versions(at api.Segment, upto, mark uint64) []api.Version {
	var l []api.Version
	for _, x := range h.rows {
		v := api.Version{Id: x.Id, Row: catalog.Row(h.c.Projs[at.Proj], x.Row), Deleted: x.deleted}
		if x.deleted > upto {
			v.Deleted = 0
		}
		if catalog.Where(h.c, at.Proj, x.Row) == at && x.Id.Epoch <= upto && (v.Deleted == 0 || v.Deleted > mark) {
			l = append(l, v)
		}
	}
	return l
}

// visible is what is seen of a segment at an epoch.
func (h *history) visible(at api.Segment, epoch uint64) []api.Version {
	return h.versions(at, epoch, epoch)
}

// wantHistory wants that a member has all that is visible, at the epochs from its mark up to through.
func (h *history) wantHistory(t *testing.T, what string, m *member.Member) {
	t.Helper()
	s := m.Store()
	for _, x := range s.Shapes() {
		for epoch := s.Mark(); epoch <= s.Through(); epoch++ {
			wantVersions(t, what, slices.Collect(s.Scan(x.At, epoch)), h.visible(x.At, epoch)...)
		}
	}
}

// station is a node that runs.
type station struct {
	d *disk.Disk
	m *member.Member
}

// crash opens a node anew, on what is left of its disk.
func (s *station) crash(t *testing.T, r *rand.Rand, h *history, node int) {
	t.Helper()
	keep := make([]int, len(s.d.Names()))
	for i := range keep {
		keep[i] = r.IntN(80) << r.IntN(4)
	}
	s.d = s.d.Crash(keep)
	s.m = open(t, "behind a crash", h.c, s.d, node)
}

// told is a message from the coordinator.
func told(c api.Catalog, node int, x api.Message) api.Message {
	x.From, x.To = c.Nodes, node
	return x
}

// TestVoteCounts: P20.5, and P20.6 all along.
func TestVoteCounts(t *testing.T) {
	deaths := 0
	for seed := range uint64(300) {
		r := rand.New(rand.NewPCG(23, seed))
		h := &history{c: four()}
		node := r.IntN(4)
		s := &station{d: formatted(t, h.c, node, 1<<22)}
		s.m = open(t, "a formatted disk", h.c, s.d, node)
		var late []api.Message
		txn := uint64(0)
		for range 1 + r.IntN(8) {
			txn = lead(t, r, h, s, node, txn, &late)
		}
		come, places := h.draw(r)
		txn++
		x := told(h.c, node, prepare(txn, h.last, h.parts(come, places)[node]))
		yes := api.Message{Kind: api.MsgVote, From: node, To: 4, Txn: txn, Yes: true}
		wantSaid(t, "P20.5: MsgPrepare", s.m.Take(deep(x)), yes)
		late = append(late, x)
		for range 80 {
			if r.IntN(3) == 0 {
				s.d.Arm(r.IntN(12))
			}
			y := late[r.IntN(len(late))]
			if r.IntN(4) > 0 { // what was said last does more
				y = late[len(late)-1-r.IntN(7)]
			}
			s.m.Take(deep(y))
			if s.d.Dead() {
				deaths++
			}
			if s.d.Dead() || r.IntN(20) == 0 {
				s.crash(t, r, h, node)
			}
			if through := s.m.Store().Through(); through != h.last || s.m.Wiped() {
				t.Fatalf("P20.6: through is %d, was %d; Wiped: %v", through, h.last, s.m.Wiped())
			}
		}
		s.d.Arm(-1)
		h.commit(come, places)
		want := api.Message{Kind: api.MsgThrough, From: node, To: 4, Epoch: h.last, Mark: s.m.Store().Mark()}
		wantSaid(t, "P20.5: MsgDecide", s.m.Take(told(h.c, node, decide(h.last, txn))), want)
		h.wantHistory(t, "P20.5: what it has then", s.m)
		if t.Failed() {
			t.Fatal("seed", seed)
		}
	}
	if deaths < 200 {
		t.Error("too few deaths:", deaths)
	}
}

// lead leads a node through an epoch; late is all that it is told, and what it may be told of former attempts.
func lead(t *testing.T, r *rand.Rand, h *history, s *station, node int, txn uint64, late *[]api.Message) uint64 {
	t.Helper()
	tell := func(x api.Message) {
		x = told(h.c, node, x)
		*late = append(*late, x)
		s.m.Take(deep(x))
	}
	come, places := h.draw(r)
	for range r.IntN(3) { // of which nothing came
		txn++
		c, p := h.draw(r)
		tell(prepare(txn, h.last, h.parts(c, p)[node]))
	}
	txn++
	tell(prepare(txn, h.last, h.parts(come, places)[node]))
	h.commit(come, places)
	tell(decide(h.last, txn))
	if through := s.m.Store().Through(); through != h.last {
		t.Fatalf("P20.4: through is %d, want %d", through, h.last)
	}
	tell(markTo(uint64(r.IntN(int(h.last) + 1))))
	at := s.m.Store().Shapes()[0].At
	tell(scan(txn, at, h.last))
	tell(fetch((node+1)%4, txn, at, 0, h.last))
	tell(probe(txn))
	since := uint64(r.IntN(int(h.last) + 1))
	mark := uint64(r.IntN(int(since) + 1))
	for _, x := range s.m.Store().Shapes() {
		l := h.versions(x.At, h.last, mark)
		l = slices.DeleteFunc(l, func(v api.Version) bool { return since != 0 && v.Id.Epoch <= since && v.Deleted <= since })
		*late = append(*late, api.Message{Kind: api.MsgCopy, From: (node + 1) % 4, To: node, Attempt: txn, At: x.At, Since: since, Epoch: h.last, Mark: mark, Versions: l})
	}
	return txn
}

// cluster is nodes that have gone through a history, each with another mark, and moved what it has as it likes.
func cluster(t *testing.T, r *rand.Rand, h *history, from []*station, epochs int) []*station {
	t.Helper()
	l := from
	for node := len(l); node < h.c.Nodes; node++ {
		d := formatted(t, h.c, node, 1<<22)
		l = append(l, &station{d, open(t, "a formatted disk", h.c, d, node)})
	}
	for range epochs {
		come, places := h.draw(r)
		parts := h.parts(come, places)
		h.commit(come, places)
		for node, s := range l {
			if s == nil { // it is away
				continue
			}
			s.m.Take(told(h.c, node, prepare(h.last, h.last-1, parts[node])))
			s.m.Take(told(h.c, node, decide(h.last, h.last)))
			if r.IntN(5) == 0 {
				s.m.Take(told(h.c, node, markTo(uint64(r.IntN(int(h.last)+1)))))
			}
			at := s.m.Store().Shapes()[r.IntN(4)].At
			if r.IntN(2) == 0 {
				mover.Out(s.m.Store(), at, nil)
			} else {
				mover.Merge(s.m.Store(), at, nil)
			}
		}
	}
	return l
}

// fetched is what others give to a node, in any order, some of it twice; the greatest mark of those that give.
func fetched(r *rand.Rand, h *history, l []*station, node int, attempt, since, epoch uint64) ([]api.Message, uint64) {
	var copies []api.Message
	mark := uint64(0)
	for _, at := range catalog.Of(h.c, node) {
		for _, giver := range catalog.Nodes(h.c, at) {
			if giver == node {
				continue
			}
			mark = max(mark, l[giver].m.Store().Mark())
			for range 1 + r.IntN(2) {
				copies = append(copies, l[giver].m.Take(told(h.c, giver, fetch(node, attempt, at, since, epoch)))...)
			}
		}
	}
	r.Shuffle(len(copies), func(i, k int) { copies[i], copies[k] = copies[k], copies[i] })
	return copies, mark
}

// greatestMark is that of all nodes.
func greatestMark(l []*station) uint64 {
	mark := uint64(0)
	for _, s := range l {
		if s != nil {
			mark = max(mark, s.m.Store().Mark())
		}
	}
	return mark
}

// TestAllCopies: P20.7, with copies of a former attempt among them.
func TestAllCopies(t *testing.T) {
	for seed := range uint64(60) {
		r := rand.New(rand.NewPCG(24, seed))
		h := &history{c: four()}
		h.c.K = 2
		l := cluster(t, r, h, nil, 3+r.IntN(20))
		node := r.IntN(4)
		least := greatestMark(l)
		epoch := least + uint64(r.IntN(int(h.last-least)+1))
		former, _ := fetched(r, h, l, node, 4, 0, epoch)
		copies, mark := fetched(r, h, l, node, 5, 0, epoch)
		copies = append(former[:r.IntN(len(former)/4)], append(copies, former...)...)
		m := open(t, "an empty disk", h.c, disk.New(1<<22), node)
		wantJoins(t, h, m, node, copies, 5, epoch)
		if m.Store().Mark() > mark {
			t.Errorf("P20.7: the mark is %d, the givers' %d", m.Store().Mark(), mark)
		}
		h.wantHistory(t, "P20.7: what it has", m)
		if t.Failed() {
			t.Fatal("seed", seed)
		}
	}
}

// wantJoins wants that a node joins when it has got a copy of each segment, and says so again from then on.
func wantJoins(t *testing.T, h *history, m *member.Member, node int, copies []api.Message, attempt, epoch uint64) {
	t.Helper()
	left := catalog.Of(h.c, node)
	for _, x := range copies {
		said := m.Take(deep(x))
		if x.Attempt == attempt {
			left = slices.DeleteFunc(left, func(at api.Segment) bool { return at == x.At })
		}
		if len(left) > 0 || x.Attempt < attempt {
			wantSaid(t, "P20.7: MsgCopy", said)
			continue
		}
		wantSaid(t, "P20.7: MsgCopy", said, api.Message{Kind: api.MsgJoined, From: node, To: h.c.Nodes, Attempt: attempt, Epoch: epoch})
	}
	if len(left) > 0 || m.Wiped() || m.Store().Through() != epoch {
		t.Fatal("P20.7: it has not joined:", left)
	}
}

// A node that was away, and has all up to an epoch that is not below the givers' marks, has what they have behind changes since that.
func TestChangesAreEnough(t *testing.T) {
	joined := 0
	for seed := range uint64(60) {
		r := rand.New(rand.NewPCG(25, seed))
		h := &history{c: four()}
		h.c.K = 2
		l := cluster(t, r, h, nil, 3+r.IntN(10))
		node := r.IntN(4)
		away := l[node]
		since := h.last
		l[node] = nil
		cluster(t, r, h, l, r.IntN(10))
		if greatestMark(l) > since {
			continue
		}
		joined++
		away.crash(t, r, h, node)
		copies, _ := fetched(r, h, l, node, 1, since, h.last)
		wantJoins(t, h, away.m, node, copies, 1, h.last)
		h.wantHistory(t, "P20.4: what it has behind changes", away.m)
		if t.Failed() {
			t.Fatal("seed", seed)
		}
	}
	if joined < 20 {
		t.Error("too few have joined:", joined)
	}
}
