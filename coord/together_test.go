package coord_test

import (
	"fmt"
	"math/rand/v2"
	"slices"
	"testing"

	"hayloft/api"
	"hayloft/disk"
	"hayloft/expr"
	"hayloft/member"
	"hayloft/plan"
	"hayloft/store"
)

// herd is a coordinator with its nodes. Messages come late, doubled, in whatever order, or never; all of them crash, and the nodes lose their disks.
type herd struct {
	*bench
	r       *rand.Rand
	disks   []*disk.Disk
	nodes   []*member.Member
	lost    []bool // whose disk was lost, and who has not joined since
	flying  []api.Message
	clients int                // how many there were
	sent    map[int][]api.Op   // by client: what was not answered
	asked   map[int]api.Query  // likewise
	done    map[int]api.Commit // what was told ReplyDone; the Txn is not known
	failed  map[int][]api.Op   // what was told ReplyFailed
	former  []api.Commit       // what was committed when it crashed
	counts  map[string]int     // what has happened
}

func newHerd(t *testing.T, cat api.Catalog, seed uint64) *herd {
	t.Helper()
	h := &herd{
		bench: begin(t, cat), r: rand.New(rand.NewPCG(2121, seed)), disks: make([]*disk.Disk, cat.Nodes), nodes: make([]*member.Member, cat.Nodes), lost: make([]bool, cat.Nodes),
		sent: map[int][]api.Op{}, asked: map[int]api.Query{}, done: map[int]api.Commit{}, failed: map[int][]api.Op{}, counts: map[string]int{},
	}
	for n := range cat.Nodes {
		h.disks[n] = disk.New(1 << 24)
		wantErrno(t, "a node's store", store.Format(h.disks[n], member.Shapes(cat, n)), api.OK)
		h.boots(n)
	}
	return h
}

// boots opens a node on its disk.
func (h *herd) boots(n int) {
	h.t.Helper()
	m, e := member.Open(h.cat, h.disks[n], n)
	wantErrno(h.t, "a node", e, api.OK)
	h.nodes[n] = m
}

// some is true once in so many times.
func (h *herd) some(many int) bool { return h.r.IntN(many) == 0 }

// hears takes what the coordinator tells, and wants that it may do so.
func (h *herd) hears(x heard) {
	h.t.Helper()
	h.flying = append(h.flying, x.messages...)
	for _, reply := range x.replies {
		switch reply.Kind {
		case api.ReplyDone:
			h.counts["done"]++
			h.done[reply.To] = api.Commit{Epoch: reply.Epoch, Ops: h.sent[reply.To]}
		case api.ReplyFailed:
			h.counts[fmt.Sprint("failed ", reply.Code)]++
			h.failed[reply.To] = h.sent[reply.To]
		case api.ReplyRows:
			h.counts["rows"]++
			h.wantRows(reply)
		case api.ReplyError:
			h.counts[fmt.Sprint("no rows ", reply.Code)]++
		}
		if _, asks := h.asked[reply.To]; !asks && h.sent[reply.To] == nil {
			h.t.Errorf("P21.8: a second reply: %+v", reply)
		}
		delete(h.sent, reply.To)
		delete(h.asked, reply.To)
	}
	h.wantNoDoubt()
	if h.d.Dead() {
		h.crashes()
	}
}

// wantNoDoubt wants that nobody is out whose disk was not lost: what a node seems to lack may be but late.
func (h *herd) wantNoDoubt() {
	h.t.Helper()
	for n, is := range h.c.Members() {
		if !is && !h.lost[n] {
			h.t.Errorf("P21.4: %d is out, and has lost nothing", n)
		}
		if is && !h.nodes[n].Wiped() && h.lost[n] {
			h.lost[n] = false
			h.counts["joined"]++
		}
	}
}

// table is what a table has at an epoch: what was committed up to there, one thing after the other.
func (h *herd) table(table int, epoch uint64) [][]api.Value {
	var l [][]api.Value
	for _, x := range h.c.Commits()[:epoch] {
		for _, o := range x.Ops {
			if o.Kind == api.OpDelete && o.Table == table {
				l = slices.DeleteFunc(l, func(row []api.Value) bool { return expr.All(o.Where, row) })
			}
		}
		for _, o := range x.Ops {
			if o.Table == table {
				l = append(l, o.Rows...)
			}
		}
	}
	return l
}

// wantRows wants that a query is answered by what was committed up to its epoch.
func (h *herd) wantRows(reply api.Reply) {
	h.t.Helper()
	q := h.asked[reply.To]
	want, e := plan.Answer(q, h.table(q.Table, reply.Epoch), h.table(q.Right, reply.Epoch))
	wantErrno(h.t, "P21.4: an answer", e, api.OK)
	if !alikeRows(reply.Rows, want) {
		h.t.Errorf("P21.4: %+v is answered %+v, want %+v", q, reply, want)
	}
}

// wantLasting wants that what was told stands (P21.8).
func (h *herd) wantLasting() {
	h.t.Helper()
	commits := h.c.Commits()
	if len(commits) < len(h.former) {
		h.t.Fatalf("P21.8: %d epochs, there were %d", len(commits), len(h.former))
	}
	wantCommits(h.t, "P21.8: what was committed", commits[:len(h.former)], h.former...)
	for i, x := range commits {
		if x.Epoch != uint64(i)+1 || i > 0 && x.Txn <= commits[i-1].Txn {
			h.t.Errorf("P21.8: the commit %d is %d, of %d", i, x.Epoch, x.Txn)
		}
		for client, l := range h.failed {
			if alikeOps(l, x.Ops) {
				h.t.Errorf("P21.8: %d was told ReplyFailed, and is committed: %+v", client, x)
			}
		}
	}
	for client, x := range h.done {
		if x.Epoch == 0 || x.Epoch > uint64(len(commits)) || !alikeOps(commits[x.Epoch-1].Ops, x.Ops) {
			h.t.Errorf("P21.8: %d was told ReplyDone %d, and is not committed", client, x.Epoch)
		}
	}
	h.former = commits
}

// crashes has the coordinator crash: of all whose answer is not there nobody knows.
func (h *herd) crashes() {
	h.t.Helper()
	h.counts["crashes"]++
	h.bench = h.anew(h.r.IntN(60), h.r.IntN(60))
	clear(h.sent)
	clear(h.asked)
	h.wantLasting()
}

// asks has a client ask for something. Each has a row of its own to insert.
func (h *herd) asks() {
	h.t.Helper()
	h.clients++
	if h.some(2) {
		q := someQuery(h.r, h.cat)
		h.asked[h.clients] = q
		h.hears(hear(h.c.Ask(h.clients, q, near(h.r, h.c.Last()), h.r.IntN(3))))
		return
	}
	l := append(someOps(h.r, h.cat), insert(len(h.cat.Tables)-1, row(1000+h.clients)))
	h.sent[h.clients] = l
	h.hears(hear(h.c.Submit(h.clients, l, h.r.IntN(3))))
}

// delivers has one of the messages come.
func (h *herd) delivers(i int) {
	h.t.Helper()
	x := h.flying[i]
	if !h.some(12) {
		h.flying = slices.Delete(h.flying, i, i+1)
	}
	if x.To == h.cat.Nodes {
		h.hears(hear(h.c.Take(x)))
		return
	}
	h.flying = append(h.flying, h.nodes[x.To].Take(x)...)
}

// mayLose tells whether a node's disk may be lost: all others have, or are about to have, all that was committed.
func (h *herd) mayLose() bool {
	for n, is := range h.c.Members() {
		s := h.nodes[n].Store()
		if !is || s == nil || h.lost[n] {
			return false
		}
		last := h.c.Last()
		sure := s.Through() == last || s.Through()+1 == last && slices.Contains(s.Prepared(), h.c.Commits()[last-1].Txn)
		if !sure {
			return false
		}
	}
	return true
}

// loses has a node lose its disk, and boot.
func (h *herd) loses(n int) {
	h.t.Helper()
	h.counts["lost"]++
	h.disks[n].Wipe()
	h.lost[n] = true
	h.boots(n)
}

// steps has something happen.
func (h *herd) steps() {
	h.t.Helper()
	switch n := h.r.IntN(1000); {
	case n < 40:
		h.asks()
	case n < 90:
		h.hears(h.tick())
	case n < 130:
		h.flying = append(h.flying, h.nodes[h.r.IntN(h.cat.Nodes)].Tick()...)
	case n < 133:
		h.hears(hear(h.c.GiveUp(), nil))
	case n < 138:
		h.c.Mark(h.c.History() + uint64(h.r.IntN(4)))
	case n < 140:
		h.crashes()
	case n < 142:
		h.d.Arm(h.r.IntN(4))
	case n < 147:
		n := h.r.IntN(h.cat.Nodes)
		h.disks[n] = h.disks[n].Crash(nil)
		h.boots(n)
	case n < 152 && h.mayLose():
		h.loses(h.r.IntN(h.cat.Nodes))
	case n < 220 && len(h.flying) > 0:
		h.flying = slices.Delete(h.flying, 0, 1)
	case len(h.flying) > 0:
		h.delivers(h.r.IntN(len(h.flying)))
	}
	for len(h.flying) > 200 {
		h.flying = slices.Delete(h.flying, 0, 50)
	}
}

// calms delivers all, in order, and has all say again what is missing, until nobody lacks anything.
func (h *herd) calms() {
	h.t.Helper()
	for range 60 {
		h.hears(h.tick())
		for _, m := range h.nodes {
			h.flying = append(h.flying, m.Tick()...)
		}
		for len(h.flying) > 0 {
			h.delivers(0)
		}
	}
	members := make([]bool, h.cat.Nodes)
	for n, m := range h.nodes {
		members[n] = true
		if s := m.Store(); m.Wiped() || s.Through() != h.c.Last() || s.Mark() != h.c.History() {
			h.t.Errorf("P21.5: %d lacks something", n)
		}
	}
	h.wantState("all is calm", h.c.Last(), h.c.History(), false, 0, members...)
	h.wantLasting()
	if len(h.sent)+len(h.asked) > 0 {
		h.t.Errorf("P21.5: no reply: %+v, %+v", h.sent, h.asked)
	}
}

// Whatever comes, late, doubled, never, and whoever crashes: what was told stands, and in the end all is done.
func TestTogether(t *testing.T) {
	counts := map[string]int{}
	for seed := range uint64(24) {
		h := newHerd(t, []api.Catalog{two(), four()}[seed%2], seed)
		h.counts = counts
		for range 2 {
			for range 1500 {
				if h.steps(); t.Failed() {
					t.Fatal("seed", seed)
				}
			}
			h.calms()
		}
	}
	for what, least := range map[string]int{
		"done": 200, "rows": 200, "crashes": 50, "lost": 30, "joined": 30,
		fmt.Sprint("failed ", api.ErrAborted): 10, fmt.Sprint("failed ", api.ErrBusy): 10, fmt.Sprint("no rows ", api.ErrPurged): 10,
	} {
		if counts[what] < least {
			t.Errorf("P21.8: too rarely: %s: %d", what, counts[what])
		}
	}
}
