package coord_test

import (
	"testing"

	"hayloft/api"
	"hayloft/disk"
	"hayloft/journal"
	"hayloft/value"
)

// submitted is a coordinator of four with a transaction that prepares, the client's operation 3, its number 1.
func submitted(t *testing.T) *bench {
	t.Helper()
	b := begin(t, four())
	b.c.Submit(3, ops(insert(1, row(1))), 0)
	return b
}

func decides(epoch, txn uint64, members ...int) []api.Message {
	var l []api.Message
	for _, n := range members {
		l = append(l, decide(n, epoch, txn))
	}
	return l
}

func TestVotes(t *testing.T) {
	b := submitted(t)
	b.takes(vote(2, 1, true), vote(2, 1, true), vote(0, 1, true), vote(2, 1, true), vote(3, 1, true))
	for _, txn := range []uint64{0, 2, most} { // of others
		b.takes(vote(1, txn, true), vote(1, txn, false), vote(0, txn, false))
	}
	b.wantState("a vote is missing", 0, 0, true, 0, true, true, true, true)
	b.want("P21.4: the last vote", b.take(vote(1, 1, true)), heard{[]api.Reply{done(3, 1)}, decides(1, 1, 0, 1, 2, 3)})
	b.wantState("committed", 1, 0, false, 0, true, true, true, true)
	for n := range 4 { // it is decided
		b.takes(vote(n, 1, true), vote(n, 1, false))
	}
	b.wantState("committed", 1, 0, false, 0, true, true, true, true)
}

func TestVotesNo(t *testing.T) {
	for _, earlier := range []int{-1, 0, 2} { // who has voted Yes, also the one that says No then
		b := submitted(t)
		if earlier >= 0 {
			b.takes(vote(earlier, 1, true))
		}
		b.want("P21.4: No", b.take(vote(2, 1, false)), replied(failed(3, api.ErrFull)))
		b.wantState("aborted", 0, 0, false, 0, true, true, true, true)
		for n := range 4 {
			b.takes(vote(n, 1, true), vote(n, 1, false))
		}
		b.wantState("aborted", 0, 0, false, 0, true, true, true, true)
		b.commits(2, insert(1, row(2)))
		b = b.anew()
		wantCommits(t, "P21.8", b.c.Commits(), api.Commit{Txn: 2, Epoch: 1, Ops: ops(insert(1, row(2)))})
	}
}

// A transaction that reads has no votes.
func TestVotesWhileItReads(t *testing.T) {
	b := begin(t, two())
	b.c.Submit(3, ops(remove(0)), 0)
	b.takes(vote(0, 1, true), vote(1, 1, false), vote(1, 1, true))
	b.want("P21.4: MsgRows", b.take(rowsTold(0, first, at(0, 0))), said(prepare(0, 1, 0, api.Part{}), prepare(1, 1, 0, api.Part{})))
	b.takes(vote(0, 1, true))
	b.want("P21.4: the last vote", b.take(vote(1, 1, true)), heard{[]api.Reply{done(3, 1)}, decides(1, 1, 0, 1)})
}

// With who goes out the last vote may be no more missing.
func TestCommitByEvict(t *testing.T) {
	b := submitted(t)
	b.takes(vote(0, 1, true), vote(3, 1, true), vote(1, 1, true))
	b.want("P21.4: a probe", b.take(hello(2, 0, 0, true)), said(probe(2, first)))
	b.want("P21.2: the last one goes out", b.take(hello(2, first, 0, true)), heard{[]api.Reply{done(3, 1)}, decides(1, 1, 0, 1, 3)})
	b.wantState("committed", 1, 0, false, 0, true, true, false, true)

	b = submitted(t) // one vote is missing yet
	b.takes(vote(0, 1, true), vote(3, 1, true))
	b.evicts(2)
	b.wantState("one is missing", 0, 0, true, 0, true, true, false, true)
	b.takes(vote(2, 1, true), vote(2, 1, false))
	b.want("P21.4: the last vote", b.take(vote(1, 1, true)), heard{[]api.Reply{done(3, 1)}, decides(1, 1, 0, 1, 3)})

	b = submitted(t) // one that has voted goes out
	b.takes(vote(2, 1, true))
	b.evicts(2)
	b.takes(vote(0, 1, true), vote(1, 1, true))
	b.want("P21.4: the last vote", b.take(vote(3, 1, true)), heard{[]api.Reply{done(3, 1)}, decides(1, 1, 0, 1, 3)})
}

// Where too many are out nothing is committed, whoever has voted; it is given up.
func TestTooManyOut(t *testing.T) {
	b := submitted(t)
	b.takes(vote(1, 1, true), vote(3, 1, true))
	b.evicts(0, 2)
	b.takes(vote(1, 1, true), vote(3, 1, true))
	b.wantState("too many are out", 0, 0, true, 0, false, true, false, true)
	b.want("P21.6", hear(b.c.GiveUp(), nil), replied(failed(3, api.ErrAborted)))
	b.want("P21.2: too many are out", hear(b.c.Submit(4, ops(insert(1, row(1))), 0)), replied(failed(4, api.ErrUnavailable)))
	b.joins(2)
	b.commits(2, insert(1, row(1)))
	b.joins(0)
	b.commits(3, insert(1, row(1)))

	b = submitted(t)
	b.takes(vote(1, 1, true))
	b.evicts(0, 2)
	b.takes(vote(3, 1, true))
	b.wantState("too many are out", 0, 0, true, 0, false, true, false, true)
	b.want("P21.4: No", b.take(vote(1, 1, false)), replied(failed(3, api.ErrFull)))

	b = submitted(t) // no member at all
	b.evicts(0, 1, 2, 3)
	b.wantState("all are out", 0, 0, true, 0, false, false, false, false)
	b.want("P21.5: nobody is asked", b.tick(), silence())
	b.want("P21.4: nobody can give", b.take(hello(2, 0, 0, true)), silence())
}

// leave fills a disk, but for so many bytes.
func leave(d *disk.Disk, bytes int) {
	d.Append("filler", make([]byte, d.Free()-bytes))
	d.Sync("filler")
}

// abortSize is how many bytes an Abort takes in a journal.
func abortSize(t *testing.T) int {
	t.Helper()
	b := submitted(t)
	free := b.d.Free()
	b.c.GiveUp()
	return free - b.d.Free()
}

// undecided tells whether a transaction is, by what lasts in the log.
func undecided(b *bench) bool {
	d := b.d.Crash(nil)
	d.Remove("filler")
	j, e := journal.Open(d, b.cat.Nodes)
	wantErrno(b.t, "the log", e, api.OK)
	_, is := j.Undecided()
	return is
}

// Where the log has no room for the commit the transaction is aborted, also if there is no room for that.
func TestCommitWithoutRoom(t *testing.T) {
	for _, bytes := range []int{0, abortSize(t) - 1, abortSize(t), abortSize(t) + 1} {
		b := submitted(t)
		b.takes(vote(0, 1, true), vote(1, 1, true), vote(2, 1, true))
		leave(b.d, bytes)
		b.want("P21.2: no room", b.take(vote(3, 1, true)), replied(failed(3, api.ErrFull)))
		b.wantState("no room", 0, 0, false, 0, true, true, true, true)
		if found := undecided(b); found != (bytes < abortSize(t)) {
			t.Errorf("P21.2: %d bytes are left: undecided: %t", bytes, found)
		}
		b.takes(vote(3, 1, true))
		b.d.Remove("filler")
		b.takes(vote(3, 1, true))
		b.commits(2, insert(1, row(2)))
		wantCommits(t, "P21.8", b.anew().c.Commits(), api.Commit{Txn: 2, Epoch: 1, Ops: ops(insert(1, row(2)))})
	}
}

// A No is heard also where there is no room for it in the log.
func TestAbortWithoutRoom(t *testing.T) {
	for _, bytes := range []int{0, abortSize(t) - 1, abortSize(t)} {
		for code, abort := range map[api.Errno]func(b *bench) heard{
			api.ErrFull:    func(b *bench) heard { return b.take(vote(1, 1, false)) },
			api.ErrAborted: func(b *bench) heard { return hear(b.c.GiveUp(), nil) },
		} {
			b := submitted(t)
			leave(b.d, bytes)
			b.want("P21.4, P21.6: no room", abort(b), replied(failed(3, code)))
			b.wantState("no room", 0, 0, false, 0, true, true, true, true)
			b.want("P21.2: no room", hear(b.c.Submit(4, ops(insert(1, row(2))), 0)), replied(failed(4, api.ErrFull)))
			b.d.Remove("filler")
			b.commits(2, insert(1, row(2)))
			wantCommits(t, "P21.8", b.anew().c.Commits(), api.Commit{Txn: 2, Epoch: 1, Ops: ops(insert(1, row(2)))})
		}
	}
}

// Between the abort of one and the beginning of the next one the room may end.
func TestBeginWithoutRoom(t *testing.T) {
	b := submitted(t)
	leave(b.d, 0)
	b.c.GiveUp()
	b.d.Remove("filler")
	leave(b.d, abortSize(t))
	b.want("P21.2: room for the abort alone", hear(b.c.Submit(4, ops(insert(1, row(2))), 0)), replied(failed(4, api.ErrFull)))
	if b.d.Free() != 0 || undecided(b) {
		t.Error("P21.2: it is not aborted")
	}
	b.d.Remove("filler")
	b.commits(2, insert(1, row(2)))
}

// expr does not ask a value that a term does not ask; the journal does: what it can't write is not committed.
func TestCommitOfOpsThatCantBeWritten(t *testing.T) {
	b := begin(t, two())
	b.c.Submit(3, ops(remove(0, api.Term{Op: api.TermNull, Value: api.Value{Kind: 9}})), 0)
	b.want("P21.4: MsgRows", b.take(rowsTold(0, first, at(0, 0))), said(prepare(0, 1, 0, api.Part{}), prepare(1, 1, 0, api.Part{})))
	b.takes(vote(0, 1, true))
	b.want("P21.2: the log refuses it", b.take(vote(1, 1, true)), replied(failed(3, api.ErrFull)))
	b.wantState("refused", 0, 0, false, 0, true, true)
	b.commits(2, insert(0, row(1)))

	odd := ops(remove(0, api.Term{Op: api.TermFull, Value: value.Text("not asked")})) // it can be written
	b.c.Submit(3, odd, 0)
	b.take(rowsTold(0, first+1, at(0, 0)))
	b.takes(vote(0, 3, true))
	b.want("P21.2: the log takes it", b.take(vote(1, 3, true)), heard{[]api.Reply{done(3, 2)}, decides(2, 3, 0, 1)})
	if c := b.anew().c.Commits(); len(c) != 2 || !alikeOps(c[1].Ops, odd) {
		t.Errorf("P21.7: %+v", c)
	}
}
