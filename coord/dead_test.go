package coord_test

import (
	"math"
	"testing"

	"hayloft/api"
)

// lastDeed is a call in which a disk may die: a coordinator ahead of it, the call, and what is told if a query was asked in between, and the disk does not die.
type lastDeed struct {
	what  string
	ahead func(t *testing.T) *bench
	call  func(b *bench) heard
	want  heard
}

// prepares is a coordinator of two with an epoch, and a transaction of which 1's vote is missing.
func prepares(t *testing.T) *bench {
	t.Helper()
	b := grown(t, two(), 1)
	b.c.Submit(5, ops(insert(0, row(7))), 0)
	b.takes(vote(0, 2, true))
	return b
}

// probed is prepares, with a probe of 1 that is open.
func probed(t *testing.T) *bench {
	t.Helper()
	b := prepares(t)
	b.take(hello(1, 0, 0, true))
	return b
}

// behindNoRoom is a coordinator with a transaction in its log that it could not abort.
func behindNoRoom(t *testing.T) *bench {
	t.Helper()
	b := prepares(t)
	leave(b.d, 0)
	b.c.GiveUp()
	b.d.Remove("filler")
	return b
}

// fetched is one of whose nodes 1 is out, with an attempt.
func fetched(t *testing.T) *bench {
	t.Helper()
	b := grown(t, two(), 1)
	b.evicts(1)
	b.take(hello(1, 0, 0, true))
	return b
}

func lastDeeds() []lastDeed {
	some := func(t *testing.T) *bench { t.Helper(); return grown(t, two(), 1) }
	part := api.Part{Inserts: []api.Insert{{At: at(0, 0), Ver: ver(0, 0, 8)}}}
	committed := heard{[]api.Reply{done(5, 2)}, decides(2, 2, 0, 1)}
	submit := func(b *bench) heard { return hear(b.c.Submit(6, ops(insert(0, row(8))), 0)) }
	return []lastDeed{
		{"Submit", some, submit, said(prepare(0, 2, 1, part), prepare(1, 2, 1, part))},
		{"Submit behind an abort", behindNoRoom, submit, said(prepare(0, 3, 1, part), prepare(1, 3, 1, part))},
		{"Submit that reads", some, func(b *bench) heard { return hear(b.c.Submit(6, ops(remove(0)), 0)) }, said(scan(0, first+1, 1, at(0, 0)), scan(1, first+1, 1, at(0, 0)))},
		{"the last vote", prepares, func(b *bench) heard { return b.take(vote(1, 2, true)) }, committed},
		{"No", prepares, func(b *bench) heard { return b.take(vote(1, 2, false)) }, replied(failed(5, api.ErrFull))},
		{"GiveUp", prepares, func(b *bench) heard { return hear(b.c.GiveUp(), nil) }, replied(failed(5, api.ErrAborted))},
		{"Evict, and commit", probed, func(b *bench) heard { return b.take(hello(1, first, 0, true)) }, heard{committed.replies, decides(2, 2, 0)}},
		{"Evict", func(t *testing.T) *bench { b := probed(t); b.c.GiveUp(); return b }, func(b *bench) heard { return b.take(hello(1, first, 0, true)) }, silence()},
		{"Join", fetched, func(b *bench) heard { return b.take(joined(1, first+1, 1)) }, silence()},
		{"Mark", some, func(b *bench) heard { b.c.Mark(1); return silence() }, silence()},
	}
}

// wantDead wants that nothing is told any more, and that what is told of itself stays.
func (b *bench) wantDead(what string) {
	b.t.Helper()
	last, mark, busy, asked, members := b.c.Last(), b.c.History(), b.c.Busy(), b.c.Asked(), b.c.Members()
	for range 2 {
		for _, l := range [][]api.Op{nil, ops(insert(0, row(9))), ops(remove(0))} {
			b.want(what+": Submit", hear(b.c.Submit(8, l, 0)), silence())
		}
		for _, epoch := range []uint64{0, 1, most} {
			b.want(what+": Ask", hear(b.c.Ask(8, query(0), epoch, 0)), silence())
			b.want(what+": Ask", hear(b.c.Ask(8, api.Query{}, epoch, 0)), silence())
			wantErrno(b.t, what+": Mark", b.c.Mark(epoch), api.ErrUnavailable)
		}
		for n := range 2 {
			for txn := range uint64(4) {
				b.want(what+": MsgVote", b.take(vote(n, txn, true)), silence())
				b.want(what+": MsgVote", b.take(vote(n, txn, false)), silence())
				b.want(what+": MsgRows", b.take(rowsTold(n, first+txn, at(0, 0))), silence())
				b.want(what+": MsgHello", b.take(hello(n, first+txn, 0, true)), silence())
				b.want(what+": MsgJoined", b.take(joined(n, first+txn, 1)), silence())
			}
			b.want(what+": MsgThrough", b.take(through(n, 9, 9)), silence())
		}
		b.want(what+": Tick", b.tick(), silence())
		b.want(what+": GiveUp", hear(b.c.GiveUp(), nil), silence())
	}
	b.wantState(what, last, mark, busy, asked, members...)
}

// facts are what a log tells of for ever.
type facts struct {
	last, mark uint64
	out        bool // 1 is
}

func factsOf(b *bench) facts { return facts{b.c.Last(), b.c.History(), !b.c.Members()[1]} }

// Let the disk die at any step of any call: nothing is told from then on; on what is found it goes on, and what was told stands.
func TestDiesAtAStep(t *testing.T) {
	for _, x := range lastDeeds() {
		b := x.ahead(t)
		former := factsOf(b)
		b.c.Ask(4, query(0), 0, 0)
		b.want("P21.2 to P21.6: "+x.what, x.call(b), x.want)
		after := factsOf(b)
		for dies := 0; ; dies++ {
			b := x.ahead(t)
			b.c.Ask(4, query(0), 0, 0)
			b.d.Arm(dies)
			got := x.call(b)
			if !b.d.Dead() {
				if dies < 2 { // an Append, and a Sync
					t.Error("P21.8: too few steps:", x.what)
				}
				break
			}
			b.want("dead: "+x.what, got, silence())
			b.wantDead("dead: " + x.what)
			wantWhole(b, x.what, former, after)
		}
	}
}

// wantWhole wants that behind a crash a call was done as a whole, or not, or, where it does two things, the first one of them; and that it goes on from there.
func wantWhole(b *bench, what string, former, after facts) {
	b.t.Helper()
	for _, keep := range []int{0, 1, 4, 8, 12, 20, 40, math.MaxInt} {
		found := b.anew(keep, keep)
		between := former
		between.out = after.out
		if got := factsOf(found); got != former && got != after && got != between {
			b.t.Errorf("P21.8: %s: %d bytes survive: %+v, from %+v to %+v", what, keep, got, former, after)
		}
		found.wantState(what, found.c.Last(), found.c.History(), false, 0, found.c.Members()...)
		if !found.c.Members()[1] {
			found.joins(1)
		}
		got := hear(found.c.Submit(6, ops(insert(0, row(9))), 0))
		if len(got.messages) != 2 || got.messages[0].Txn < 2 {
			b.t.Fatalf("P21.8: %s: it does not go on: %+v", what, got)
		}
		found.takes(vote(0, got.messages[0].Txn, true))
		wantReplies(b.t, "P21.8: it goes on", found.take(vote(1, got.messages[0].Txn, true)).replies, done(6, found.c.Last()))
		for i, x := range found.c.Commits() {
			if x.Epoch != uint64(i)+1 || i > 0 && x.Txn <= found.c.Commits()[i-1].Txn {
				b.t.Errorf("P21.8: %s: commits %+v", what, found.c.Commits())
			}
		}
	}
}

// As long as the journal is asked nothing a disk that is dead is not seen.
func TestDeadUnseen(t *testing.T) {
	b := prepares(t)
	b.c.Ask(4, query(0), 0, 0)
	kill(b.d)
	b.want("P21.2: refused ahead of the journal", hear(b.c.Submit(8, nil, 0)), replied(failed(8, api.ErrInvalid)))
	b.want("P21.2: refused ahead of the journal", hear(b.c.Submit(8, ops(remove(0)), 0)), replied(failed(8, api.ErrBusy)))
	wantErrno(t, "P21.6: refused ahead of the journal", b.c.Mark(2), api.ErrArg)
	b.want("P21.3: the journal is not asked", hear(b.c.Ask(8, query(0), 0, 0)), said(scan(0, first+1, 1, at(0, 0)), scan(1, first+1, 1, at(0, 0))))
	b.want("P21.4: the journal is not asked", b.take(rowsTold(0, first, at(0, 0), ver(1, 0, 3))), replied(answered(4, 1, row(3))))
	b.want("P21.4: the journal is not asked", b.take(hello(1, 0, 0, true)), said(probe(1, first+2)))
	if got := b.tick(); len(got.messages) == 0 {
		t.Error("P21.5: the journal is not asked:", got)
	}
	b.want("P21.6: the journal is asked", hear(b.c.GiveUp(), nil), silence())
	b.wantDead("dead")
	wantErrno(t, "P21.6: dead, and no epoch", b.c.Mark(9), api.ErrUnavailable)
}
