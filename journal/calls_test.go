package journal_test

import (
	"bytes"
	"fmt"
	"math"
	"slices"
	"testing"

	"hayloft/api"
	"hayloft/disk"
	"hayloft/journal"
)

// pair is a journal and the world that it must tell.
type pair struct {
	t *testing.T
	d *disk.Disk
	j *journal.Journal
	w *world
}

func newPair(t *testing.T, nodes int) *pair {
	d := disk.New(1 << 26)
	p := &pair{t, d, open(t, "an empty disk", d, nodes), newWorld(nodes)}
	p.w.boot()
	return p
}

// same wants that the journal, and its file, are as the world tells them.
func (p *pair) same(what string) {
	p.t.Helper()
	p.w.want(p.t, what, p.j)
	wantFile(p.t, what, p.d, p.w.records...)
}

// does wants that a call answers as the world does, with two steps if it wrote something, else with none.
func (p *pair) does(what string, got func() api.Errno, want func() api.Errno) {
	p.t.Helper()
	steps, records := p.d.Steps(), len(p.w.records)
	wantErrno(p.t, "P19.3: "+what, got(), want())
	if n := p.d.Steps() - steps; n != 2*(len(p.w.records)-records) {
		p.t.Errorf("P19.3: %s: does %d steps", what, n)
	}
	p.same(what)
}

func (p *pair) begin() {
	p.t.Helper()
	p.does("Begin", func() api.Errno {
		n, e := p.j.Begin()
		if e == api.OK && n != p.w.begun+1 || e != api.OK && n != 0 {
			p.t.Errorf("P19.3: Begin: %d, %d behind %d", n, e, p.w.begun)
		}
		return e
	}, p.w.begin)
}

func (p *pair) commit(txn, epoch uint64, ops []api.Op, good bool) {
	p.t.Helper()
	p.does(fmt.Sprintf("Commit(%d, %d, %.100v)", txn, epoch, ops),
		func() api.Errno { return p.j.Commit(txn, epoch, ops) }, func() api.Errno { return p.w.commit(txn, epoch, ops, good) })
}

func (p *pair) abort(txn uint64) {
	p.t.Helper()
	p.does(fmt.Sprint("Abort ", txn), func() api.Errno { return p.j.Abort(txn) }, func() api.Errno { return p.w.abort(txn) })
}

func (p *pair) evict(node int) {
	p.t.Helper()
	p.does(fmt.Sprint("Evict ", node), func() api.Errno { return p.j.Evict(node) }, func() api.Errno { return p.w.turn(node, false) })
}

func (p *pair) join(node int) {
	p.t.Helper()
	p.does(fmt.Sprint("Join ", node), func() api.Errno { return p.j.Join(node) }, func() api.Errno { return p.w.turn(node, true) })
}

func (p *pair) mark(epoch uint64) {
	p.t.Helper()
	p.does(fmt.Sprint("Mark ", epoch), func() api.Errno { return p.j.Mark(epoch) }, func() api.Errno { return p.w.markAt(epoch) })
}

// anew opens the journal again.
func (p *pair) anew() {
	p.t.Helper()
	p.j = open(p.t, "anew", p.d, len(p.w.members))
	p.w.boot()
	p.same("anew")
}

// numbers are some that are edges, and those about n.
func numbers(n uint64) []uint64 {
	return []uint64{n, n + 1, n + 2, n - 1, 0, 1, 1 << 31, 1 << 32, 1 << 63, mostLong - 1, mostLong}
}

func TestTransactions(t *testing.T) {
	p := newPair(t, 2)
	wrong := func() {
		t.Helper()
		for _, txn := range numbers(p.w.begun) {
			if p.w.open && txn == p.w.begun {
				continue
			}
			p.abort(txn)
			for _, epoch := range numbers(p.w.last()) {
				p.commit(txn, epoch, someOps(), true)
			}
		}
	}
	for range 3 {
		wrong()
		p.begin()
		p.begin()
		wrong()
		p.abort(p.w.begun)
		wrong()
		p.begin()
		p.anew()
		p.begin()
		wrong()
		for _, epoch := range numbers(p.w.last()) {
			if epoch != p.w.last()+1 {
				p.commit(p.w.begun, epoch, someOps(), true)
			}
		}
		p.commit(p.w.begun, p.w.last()+1, someOps(), true)
		wrong()
		p.anew()
	}
}

// Commit's errors, the first one of them ahead.
func TestCommitOrder(t *testing.T) {
	p := newPair(t, 2)
	bad := list(api.Op{Kind: 2})
	p.commit(0, 1, bad, false)
	p.commit(0, 7, bad, false)
	p.begin()
	p.commit(2, 7, bad, false)
	p.commit(2, 1, bad, false)
	p.commit(1, 7, bad, false)
	p.commit(1, 0, bad, false)
	p.commit(1, 1, bad, false)
	p.commit(1, 1, nil, true)
}

func TestMembers(t *testing.T) {
	for nodes := 1; nodes <= api.MaxNodes; nodes++ {
		p := newPair(t, nodes)
		no := []int{-1, nodes, nodes + 1, api.MaxNodes, 255, 256, 256 + nodes - 1, 1 << 32, math.MinInt, math.MinInt + 1, math.MaxInt}
		for _, n := range no {
			if n < 0 || n >= nodes {
				p.evict(n)
				p.join(n)
			}
		}
		for n := range nodes {
			p.join(n)
			p.evict(n)
			p.evict(n)
		}
		p.anew()
		for _, n := range no {
			p.evict(n)
			p.join(n)
		}
		for n := nodes - 1; n >= 0; n -= 2 {
			p.join(n)
			p.join(n)
		}
		p.anew()
	}
}

func TestMark(t *testing.T) {
	p := newPair(t, 1)
	for _, n := range numbers(0) {
		p.mark(n)
	}
	for range 4 {
		p.begin()
		p.commit(p.w.begun, p.w.last()+1, nil, true)
	}
	p.begin() // what is undecided is no epoch
	for _, n := range []uint64{5, 6, mostLong, 0, 2, 2, 1, 0, 5, 3, 2, 3, 4, 4, 5, 3, mostLong} {
		p.mark(n)
	}
	p.anew()
	for _, n := range []uint64{5, 4, 3, 0} {
		p.mark(n)
	}
	p.abort(p.w.begun)
	p.mark(5)
}

// A disk that is full: the error of appending; nothing has changed, and what fits is done.
func TestFull(t *testing.T) {
	d := disk.New(200)
	j := open(t, "an empty disk", d, 2)
	w := newWorld(2)
	w.boot()
	begins := func() {
		t.Helper()
		e := w.begin()
		wantBegin(t, "room enough", j, w.begun, e)
	}
	begins()
	big := list(insert(0, slices.Repeat([][]api.Value{row(text(long64()))}, 4)...))
	for range 2 {
		wantErrno(t, "P19.3: Commit that is too long for the disk", j.Commit(1, 1, big), api.ErrDiskFull)
		w.want(t, "full", j)
		wantFile(t, "full", d, w.records...)
	}
	wantErrno(t, "P19.3: Commit", j.Commit(1, 1, nil), w.commit(1, 1, nil, true))
	begins()
	wantErrno(t, "a disk", d.Append("filler", make([]byte, d.Free())), api.OK)
	wantErrno(t, "P19.3: Commit", j.Commit(2, 2, nil), api.ErrDiskFull)
	wantErrno(t, "P19.3: Abort", j.Abort(2), api.ErrDiskFull)
	wantErrno(t, "P19.3: Evict", j.Evict(0), api.ErrDiskFull)
	wantErrno(t, "P19.3: Mark", j.Mark(1), api.ErrDiskFull)
	wantErrno(t, "P19.3: Mark that is it", j.Mark(0), api.OK)
	// what the call itself refuses goes ahead
	wantErrno(t, "P19.3: Commit", j.Commit(2, 3, nil), api.ErrJournalEpoch)
	wantErrno(t, "P19.3: Abort", j.Abort(1), api.ErrJournalTxn)
	wantErrno(t, "P19.3: Evict", j.Evict(2), api.ErrJournalNode)
	wantErrno(t, "P19.3: Join", j.Join(0), api.ErrJournalNode)
	wantErrno(t, "P19.3: Mark", j.Mark(2), api.ErrJournalEpoch)
	wantBegin(t, "full", j, 0, api.ErrJournalOpen)
	w.want(t, "full", j)
	wantErrno(t, "a disk", d.Remove("filler"), api.OK)
	wantErrno(t, "P19.3: Abort", j.Abort(2), w.abort(2))
	wantErrno(t, "P19.3: Evict", j.Evict(0), w.turn(0, false))
	wantErrno(t, "a disk", d.Append("filler", make([]byte, d.Free())), api.OK)
	wantErrno(t, "P19.3: Join", j.Join(0), api.ErrDiskFull)
	wantBegin(t, "full", j, 0, api.ErrDiskFull)
	wantErrno(t, "a disk", d.Remove("filler"), api.OK)
	begins()
	w.want(t, "room again", j)
	wantFile(t, "room again", d, w.records...)
	w.boot()
	w.want(t, "opened anew", open(t, "anew", d, 2))
}

// A journal whose disk is dead tells what it told, and refuses what it refused.
func TestDead(t *testing.T) {
	p := newPair(t, 2)
	p.begin()
	p.commit(1, 1, someOps(), true)
	p.evict(1)
	p.begin()
	p.d.Arm(0)
	before := file(t, p.d)
	for range 2 {
		wantErrno(t, "P19.3: Abort", p.j.Abort(2), api.ErrDiskDead)
		wantErrno(t, "P19.3: Commit", p.j.Commit(2, 2, nil), api.ErrDiskDead)
		wantErrno(t, "P19.3: Evict", p.j.Evict(0), api.ErrDiskDead)
		wantErrno(t, "P19.3: Join", p.j.Join(1), api.ErrDiskDead)
		wantErrno(t, "P19.3: Mark", p.j.Mark(1), api.ErrDiskDead)
		wantErrno(t, "P19.3: Mark that is it", p.j.Mark(0), api.OK)
		wantErrno(t, "P19.3: Abort", p.j.Abort(1), api.ErrJournalTxn)
		wantErrno(t, "P19.3: Commit", p.j.Commit(2, 1, nil), api.ErrJournalEpoch)
		wantErrno(t, "P19.3: Commit", p.j.Commit(2, 2, list(api.Op{Kind: -1})), api.ErrJournalOps)
		wantErrno(t, "P19.3: Evict", p.j.Evict(1), api.ErrJournalNode)
		wantErrno(t, "P19.3: Mark", p.j.Mark(2), api.ErrJournalEpoch)
		wantBegin(t, "dead", p.j, 0, api.ErrJournalOpen)
		p.w.want(t, "dead", p.j)
	}
	if !bytes.HasPrefix(file(t, p.d), before) {
		t.Error("P19.3: a dead disk has changed")
	}
	p = newPair(t, 1)
	p.d.Arm(1)
	wantBegin(t, "dies", p.j, 0, api.ErrDiskDead)
	wantBegin(t, "dead", p.j, 0, api.ErrDiskDead)
	p.w.want(t, "dead", p.j)
}
