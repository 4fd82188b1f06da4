package member_test

import (
	"math"
	"slices"
	"testing"

	"hayloft/api"
	"hayloft/disk"
	"hayloft/member"
)

// oneOfEach is a message of each kind that node 0 of two answers, so far as begin(t, 3) has made it.
func oneOfEach() []api.Message {
	return []api.Message{
		prepare(9, 3, api.Part{}), decide(3, 3), scan(1, at0, 3), fetch(1, 1, at0, 0, 3), markTo(0), probe(1),
	}
}

func TestWhoIsHeard(t *testing.T) {
	m, _ := begin(t, 3)
	for _, x := range oneOfEach() {
		if l := m.Take(deep(x)); len(l) != 1 {
			t.Errorf("P20.4: to 0 from 2: %+v says %+v", x, l)
		}
		for _, from := range []int{0, 1, 3, -1, math.MaxInt, math.MinInt} {
			y := deep(x)
			y.From = from
			wantSaid(t, "P20.4: from one that is not the coordinator", m.Take(y))
		}
		for _, to := range []int{1, 2, -1, math.MaxInt, math.MinInt} {
			y := deep(x)
			y.To = to
			wantSaid(t, "P20.4: to another one", m.Take(y))
		}
	}
	for _, kind := range []int{0, api.MsgVote, api.MsgThrough, api.MsgRows, api.MsgHello, api.MsgJoined, 13, -1, math.MaxInt, math.MinInt} {
		for from := range 3 {
			x := api.Message{Kind: kind, From: from, Txn: 4, Base: 3, Epoch: 3, Ask: 1, Attempt: 1, Node: 1}
			wantSaid(t, "P20.4: of no kind that it takes", m.Take(x))
		}
	}
	if m.Wiped() || m.Store().Through() != 3 {
		t.Error("P20.4: what is not heard has changed it")
	}
}

func TestWhoIsHeardOfCopies(t *testing.T) {
	for _, from := range []int{2, 3, -1, math.MaxInt, math.MinInt} {
		m := open(t, "an empty disk", two(), disk.New(1<<16), 0)
		for _, at := range []api.Segment{at0, at1} {
			x := copyOf(1, at, 0, 0, 0)
			x.From = from
			wantSaid(t, "P20.4: a copy from none of the nodes", m.Take(x))
			x.From, x.To = 1, 1
			wantSaid(t, "P20.4: a copy to another one", m.Take(x))
		}
		if !m.Wiped() {
			t.Error("P20.4: it has taken a copy from", from)
		}
	}
	for from := range 2 { // from itself too
		m := open(t, "an empty disk", two(), disk.New(1<<16), 0)
		x, y := copyOf(1, at0, 0, 0, 0), copyOf(1, at1, 0, 0, 0)
		x.From, y.From = from, from
		wantSaid(t, "P20.4: a copy", m.Take(x))
		wantSaid(t, "P20.4: a copy, the last one", m.Take(y), joined(1, 0))
	}
}

// The other nodes of a greater cluster say from whom, and to whom.
func TestFromAndTo(t *testing.T) {
	for node := range 4 {
		m := open(t, "a formatted disk", four(), formatted(t, four(), node, 1<<16), node)
		at := m.Store().Shapes()[0].At
		for _, x := range []api.Message{prepare(1, 0, api.Part{}), decide(1, 1), scan(1, at, 0), markTo(0), probe(1)} {
			x.From, x.To = 4, node
			l := m.Take(x)
			if len(l) != 1 || l[0].From != node || l[0].To != 4 {
				t.Errorf("P20.4: node %d: says %+v", node, l)
			}
		}
		for to := range 4 {
			x := fetch(to, 1, at, 0, 1)
			x.From, x.To = 4, node
			l := m.Take(x)
			if len(l) != 1 || l[0].From != node || l[0].To != to || l[0].Kind != api.MsgCopy {
				t.Errorf("P20.4: node %d: says %+v", node, l)
			}
		}
	}
}

func TestProbe(t *testing.T) {
	m, _ := begin(t, 2)
	for _, ask := range []uint64{0, 1, 1 << 32, most} {
		wantSaid(t, "P20.4: MsgProbe", m.Take(probe(ask)), hello(ask, 2, false))
	}
	m.Take(decide(3, 8))
	wantSaid(t, "P20.4: MsgProbe, lost", m.Take(probe(most)), hello(most, 2, true))
	m = open(t, "an empty disk", two(), disk.New(0), 0)
	wantSaid(t, "P20.4: MsgProbe, no store", m.Take(probe(3)), hello(3, 0, true))
}

func TestPrepare(t *testing.T) {
	m, _ := begin(t, 2)
	part := coming(insert(at0, 0, 5))
	for _, base := range []uint64{0, 1, 3, most} {
		wantSaid(t, "P20.4: MsgPrepare, another base", m.Take(prepare(3, base, part)), throughTold(2, 0))
	}
	wantPrepared(t, "another base", m)
	wantSaid(t, "P20.4: MsgPrepare", m.Take(prepare(7, 2, part)), vote(7, true))
	wantSaid(t, "P20.4: MsgPrepare, doubled", m.Take(prepare(7, 2, part)), vote(7, true))
	for _, txn := range []uint64{0, 1, 6} {
		wantSaid(t, "P20.4: MsgPrepare of an earlier one", m.Take(prepare(txn, 2, part)))
		wantSaid(t, "P20.4: MsgPrepare of an earlier one, another base", m.Take(prepare(txn, 1, part)), throughTold(2, 0))
	}
	wantPrepared(t, "earlier ones", m, 7)
	wantSaid(t, "P20.4: MsgPrepare of a later one", m.Take(prepare(8, 2, part)), vote(8, true))
	wantPrepared(t, "a later one", m, 8)
	// one that is prepared is not looked at again
	wantSaid(t, "P20.4: MsgPrepare, with another part", m.Take(prepare(8, 2, coming(insert(api.Segment{Proj: 9}, 0, 5)))), vote(8, true))
	wantSaid(t, "P20.4: MsgPrepare of the last number", m.Take(prepare(most, 2, part)), vote(most, true))
	wantSaid(t, "P20.4: MsgPrepare ahead of the last number", m.Take(prepare(most-1, 2, part)))
	wantPrepared(t, "the last number", m, most)
}

// What the store has prepared by itself is forgotten likewise, all that is below.
func TestPrepareForgetsAll(t *testing.T) {
	m, d := begin(t, 1)
	for _, txn := range []uint64{5, 2, 9, 4} {
		wantErrno(t, "store.Prepare", m.Store().Prepare(txn, api.Part{}), api.OK)
	}
	wantSaid(t, "P20.4: MsgPrepare, a greater one is there", m.Take(prepare(8, 1, api.Part{})))
	wantPrepared(t, "a greater one is there", m, 2, 4, 5, 9)
	wantSaid(t, "P20.4: MsgPrepare of the greatest one", m.Take(prepare(9, 1, api.Part{})), vote(9, true))
	wantPrepared(t, "the greatest one", m, 9)
	wantPrepared(t, "opened anew", open(t, "anew", two(), d, 0), 9)
}

// badParts can't be done at node 0 of two, as begin(t, 2) has made it.
func badParts() map[string]api.Part {
	named := insert(at0, 0, 1)
	named.Ver.Id.Epoch = 1
	gone := insert(at0, 0, 1)
	gone.Ver.Deleted = 1
	long := insert(at0, 0, 1)
	long.Ver.Row = row(2, 1)
	wrong := insert(at0, 0, 1)
	wrong.Ver.Row = []api.Value{{Kind: 4}}
	return map[string]api.Part{
		"no such segment":       coming(insert(api.Segment{Seg: 2}, 0, 1)),
		"no such segment, gone": going(erase(api.Segment{Proj: 1}, 1, 0)),
		"one number twice":      coming(insert(at0, 0, 1), insert(at0, 0, 2)),
		"a name's epoch":        coming(named),
		"a deleted one comes":   coming(gone),
		"two columns":           coming(long),
		"no value":              coming(wrong),
		"no such row":           going(erase(at1, 1, 0)),
		"twice gone":            going(erase(at0, 1, 0), erase(at0, 1, 0)),
	}
}

func TestPrepareNo(t *testing.T) {
	for what, p := range badParts() {
		m, d := begin(t, 2)
		wantSaid(t, "P20.4: MsgPrepare: "+what, m.Take(prepare(5, 2, p)), vote(5, false))
		wantPrepared(t, what, m)
		wantSaid(t, "P20.4: MsgPrepare", m.Take(prepare(6, 2, going(erase(at0, 1, 0)))), vote(6, true))
		// an earlier one is forgotten all the same
		wantSaid(t, "P20.4: MsgPrepare: "+what, m.Take(prepare(7, 2, p)), vote(7, false))
		wantPrepared(t, what, m)
		wantPrepared(t, what, open(t, "anew", two(), d, 0))
	}
}

func TestDecide(t *testing.T) {
	m, d := begin(t, 2)
	wantSaid(t, "P20.4: MsgPrepare", m.Take(prepare(5, 2, api.Part{Inserts: []api.Insert{insert(at1, 4, 7)}, Erases: []api.Erase{erase(at0, 1, 0)}})), vote(5, true))
	for _, epoch := range []uint64{0, 1, 2, 4, 5, 1 << 63, most} {
		for _, txn := range []uint64{5, 6} {
			wantSaid(t, "P20.4: MsgDecide of another epoch", m.Take(decide(epoch, txn)), throughTold(2, 0))
		}
	}
	wantPrepared(t, "another epoch", m, 5)
	wantSaid(t, "P20.4: MsgDecide", m.Take(decide(3, 5)), throughTold(3, 0))
	wantPrepared(t, "decided", m)
	for _, m := range []*member.Member{m, open(t, "anew", two(), d, 0)} {
		wantVersions(t, "P20.4: MsgDecide: gone", m.Store().Versions(at0), ver(1, 0, 11, 3))
		wantVersions(t, "P20.4: MsgDecide: come", m.Store().Versions(at1), grown(2), ver(3, 4, 7, 0))
	}
	wantSaid(t, "P20.4: MsgDecide, doubled", m.Take(decide(3, 5)), throughTold(3, 0))
}

// Who is told to decide what it does not know is lost, and does nothing of what it could do else, until it is opened anew.
func TestLost(t *testing.T) {
	m, d := begin(t, 2)
	m.Take(markTo(1))
	m.Take(prepare(5, 2, api.Part{}))
	wantSaid(t, "P20.4: MsgDecide of one that is not prepared", m.Take(decide(3, 4)), hello(0, 2, true))
	if !m.Wiped() || m.Store() == nil || m.Store().Through() != 2 {
		t.Error("P20.2: lost: Wiped, Store:", m.Wiped())
	}
	wantLacking(t, m, 2)
	wantPrepared(t, "lost", m, 5)
	m = open(t, "anew", two(), d, 0)
	if m.Wiped() {
		t.Error("P20.2: opened anew, it lacks something")
	}
	wantSaid(t, "P20.4: MsgDecide", m.Take(decide(3, 5)), throughTold(3, 1))
}

// wantLacking wants that one that lacks something answers so.
func wantLacking(t *testing.T, m *member.Member, through uint64) {
	t.Helper()
	for _, x := range []api.Message{prepare(5, through, api.Part{}), prepare(1, 9, api.Part{}), prepare(6, through, api.Part{}), decide(through+1, 5), decide(through, 5), decide(0, 0)} {
		wantSaid(t, "P20.4: it lacks something", m.Take(x), hello(0, through, true))
	}
	wantSaid(t, "P20.4: MsgMark: it lacks something", m.Take(markTo(2)))
	for _, epoch := range []uint64{0, through, through + 1} {
		wantSaid(t, "P20.4: MsgScan: it lacks something", m.Take(scan(4, at1, epoch)), noRows(4, at1))
		wantSaid(t, "P20.4: MsgFetch: it lacks something", m.Take(fetch(1, 1, at0, 0, epoch)))
	}
	wantSaid(t, "P20.3: Tick: it lacks something", m.Tick(), hello(0, through, true))
}

func TestNoStore(t *testing.T) {
	d := disk.New(1 << 16)
	m := open(t, "an empty disk", two(), d, 0)
	wantLacking(t, m, 0)
	if m.Store() != nil || len(d.Names()) != 0 {
		t.Error("P20.4: it has made a store:", d.Names())
	}
}

func TestMark(t *testing.T) {
	m, d := begin(t, 3)
	for _, x := range []struct{ mark, want uint64 }{{0, 0}, {1, 1}, {0, 1}, {1, 1}, {2, 2}, {1, 2}, {4, 3}, {most, 3}, {0, 3}} {
		wantSaid(t, "P20.4: MsgMark", m.Take(markTo(x.mark)), throughTold(3, x.want))
		if got := open(t, "anew", two(), d.Crash(nil), 0).Store().Mark(); got != x.want {
			t.Errorf("P20.4: MsgMark %d: the mark is %d, want %d", x.mark, got, x.want)
		}
	}
}

// The bounds of what it tells: from the mark to through.
func TestScan(t *testing.T) {
	m, _ := begin(t, 4)
	m.Take(prepare(5, 4, going(erase(at0, 1, 0))))
	m.Take(decide(5, 5))
	m.Take(markTo(2))
	for _, epoch := range []uint64{0, 1, 6, 7, most} {
		wantSaid(t, "P20.4: MsgScan: an epoch of which it does not tell", m.Take(scan(3, at0, epoch)), noRows(3, at0))
	}
	wantSaid(t, "P20.4: MsgScan", m.Take(scan(3, at0, 2)), rowsTold(3, at0, grown(1)))
	wantSaid(t, "P20.4: MsgScan", m.Take(scan(most, at0, 4)), rowsTold(most, at0, grown(1), grown(3)))
	wantSaid(t, "P20.4: MsgScan", m.Take(scan(0, at0, 5)), rowsTold(0, at0, grown(3)))
	wantSaid(t, "P20.4: MsgScan", m.Take(scan(0, at1, 3)), rowsTold(0, at1, grown(2)))
	wantSaid(t, "P20.4: MsgScan", m.Take(scan(0, at1, 4)), rowsTold(0, at1, grown(2), grown(4)))
	for _, at := range noSegments() {
		wantSaid(t, "P20.4: MsgScan: no such segment", m.Take(scan(3, at, 3)), noRows(3, at))
		wantSaid(t, "P20.4: MsgFetch: no such segment", m.Take(fetch(1, 1, at, 0, 3)))
	}
}

func noSegments() []api.Segment {
	return []api.Segment{{Seg: 2}, {Seg: -1}, {Proj: 1}, {Proj: -1, Seg: 1}, {Proj: math.MaxInt, Seg: math.MinInt}}
}

// A segment that is others' is not here.
func TestOthersSegments(t *testing.T) {
	for node := range 4 {
		m := open(t, "a formatted disk", four(), formatted(t, four(), node, 1<<16), node)
		for proj := range 3 {
			for seg := range 3 {
				at := api.Segment{Proj: proj, Seg: seg}
				here := slices.ContainsFunc(m.Store().Shapes(), func(s api.Shape) bool { return s.At == at })
				x := scan(1, at, 0)
				x.From, x.To = 4, node
				want := api.Message{Kind: api.MsgRows, From: node, To: 4, Ask: 1, At: at, No: !here}
				wantSaid(t, "P20.4: MsgScan", m.Take(x), want)
			}
		}
	}
}

func TestFetch(t *testing.T) {
	m, _ := begin(t, 4)
	m.Take(prepare(5, 4, going(erase(at0, 1, 0))))
	m.Take(decide(5, 5))
	m.Take(markTo(2))
	for _, epoch := range []uint64{0, 1, 6, most} {
		wantSaid(t, "P20.4: MsgFetch: an epoch of which it does not tell", m.Take(fetch(1, 1, at0, 0, epoch)))
	}
	wantSaid(t, "P20.4: MsgFetch: since below the mark", m.Take(fetch(1, 1, at0, 1, 3)))
	for _, node := range []int{-1, 2, 3, math.MaxInt, math.MinInt} {
		wantSaid(t, "P20.4: MsgFetch: for none of the nodes", m.Take(fetch(node, 1, at0, 0, 3)))
	}
	gone := grown(1)
	gone.Deleted = 5
	for _, x := range []struct {
		at           api.Segment
		since, epoch uint64
		want         []api.Version
	}{
		{at0, 0, 2, []api.Version{grown(1)}},
		{at0, 0, 5, []api.Version{gone, grown(3)}},
		{at0, 2, 2, nil},
		{at0, 2, 3, []api.Version{grown(3)}},
		{at0, 2, 5, []api.Version{gone, grown(3)}},
		{at0, 4, 5, []api.Version{gone}},
		{at0, 5, 5, nil},
		{at0, 6, 5, nil},
		{at0, most, 5, nil},
		{at1, 0, 3, []api.Version{grown(2)}},
		{at1, 2, 5, []api.Version{grown(4)}},
	} {
		for node := range 2 {
			want := copyOf(most, x.at, x.since, x.epoch, 2, x.want...)
			want.From, want.To = 0, node
			wantSaid(t, "P20.4: MsgFetch", m.Take(fetch(node, most, x.at, x.since, x.epoch)), want)
		}
	}
}

// With through as great as may be there is no next epoch.
func TestLastEpoch(t *testing.T) {
	m := open(t, "an empty disk", two(), disk.New(1<<16), 0)
	wantSaid(t, "P20.4: MsgCopy", m.Take(copyOf(1, at0, 0, most, 0)))
	wantSaid(t, "P20.4: MsgCopy", m.Take(copyOf(1, at1, 0, most, 0)), joined(1, most))
	wantSaid(t, "P20.4: MsgPrepare", m.Take(prepare(1, most, api.Part{})), vote(1, true))
	for _, epoch := range []uint64{0, 1, most, most - 1} {
		for txn := range uint64(3) {
			wantSaid(t, "P20.4: MsgDecide: there is no next epoch", m.Take(decide(epoch, txn)), throughTold(most, 0))
		}
	}
	if m.Wiped() {
		t.Error("P20.4: it is lost, though there is no next epoch")
	}
}

// On a dead disk nothing is done either: it is not lost by what it does not take.
func TestDeadDisk(t *testing.T) {
	m, d := begin(t, 2)
	m.Take(prepare(5, 2, api.Part{}))
	kill(d)
	for _, x := range append(oneOfEach(), decide(3, 9), decide(3, 5), prepare(6, 2, api.Part{}), markTo(2), copyOf(1, at0, 0, 2, 0), copyOf(1, at1, 0, 2, 0)) {
		wantSaid(t, "P20.4: on a dead disk", m.Take(x))
	}
	if m.Wiped() || m.Store().Through() != 2 || m.Store().Mark() != 0 {
		t.Error("P20.4: on a dead disk it has changed: Wiped:", m.Wiped())
	}
	wantPrepared(t, "on a dead disk", m, 5)
}
