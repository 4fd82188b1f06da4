package coord_test

import (
	"math"
	"testing"

	"hayloft/api"
)

func TestWhoIsHeard(t *testing.T) {
	b := begin(t, two())
	b.c.Submit(6, ops(insert(0, row(7))), 0)
	b.c.Ask(7, query(0), 0, 0)
	l := []api.Message{vote(0, 1, false), rowsTold(0, first, at(0, 0)), hello(0, 0, 0, true), through(0, 9, 9)}
	for _, x := range l {
		for _, n := range append(ends(), 2, 3) {
			y := x
			y.From = n
			b.takes(y)
			y.From = 0
			if n != 2 {
				y.To = n
				b.want("P21.4: to another one", hear(b.c.Take(y)), silence())
			}
		}
		x.To = 0
		b.want("P21.4: to a node", hear(b.c.Take(x)), silence())
		x.To = 1
		b.want("P21.4: to a node", hear(b.c.Take(x)), silence())
	}
	for _, kind := range []int{0, api.MsgPrepare, api.MsgDecide, api.MsgScan, api.MsgFetch, api.MsgCopy, api.MsgMark, api.MsgProbe, 13, -1, math.MinInt, math.MaxInt} {
		for n := range 2 {
			b.takes(api.Message{Kind: kind, From: n, Txn: 1, Ask: first, Epoch: 9, Mark: 9, Wiped: true, Attempt: 1})
		}
	}
	b.wantState("nobody was heard", 0, 0, true, 1, true, true)
	for _, x := range []api.Message{l[1], l[2], l[0]} {
		if got := b.take(x); len(got.replies)+len(got.messages) == 0 {
			t.Errorf("P21.4: %+v is not heard", x)
		}
	}
}

// grown is a coordinator with so many epochs, of one row each, whose nodes have told nothing of them.
func grown(t *testing.T, c api.Catalog, epochs uint64) *bench {
	t.Helper()
	b := begin(t, c)
	for txn := range epochs {
		b.commits(txn+1, insert(len(c.Tables)-1, row(int(txn))))
	}
	return b
}

// missed are the decisions from one epoch up to another one, each being that of the transaction of the same number.
func missed(to int, since, upto uint64) []api.Message {
	var l []api.Message
	for e := since; e <= upto; e++ {
		l = append(l, decide(to, e, e))
	}
	return l
}

func TestThrough(t *testing.T) {
	b := grown(t, two(), 4)
	wantErrno(t, "P21.6: Mark", b.c.Mark(2), api.OK)
	tell := func(what string, want ...api.Message) {
		t.Helper()
		b.want("P21.4: "+what, b.tick(), said(want...))
	}
	none := append([]api.Message{markTo(1, 2)}, missed(1, 1, 4)...)
	tell("nothing is told", append(append([]api.Message{markTo(0, 2)}, missed(0, 1, 4)...), none...)...)
	b.takes(through(0, 2, 0))
	tell("told is 2", append(append([]api.Message{markTo(0, 2)}, missed(0, 3, 4)...), none...)...)
	b.takes(through(0, 1, 1), through(0, 0, 0))
	tell("told is 2", append(append([]api.Message{markTo(0, 2)}, missed(0, 3, 4)...), none...)...)
	b.takes(through(0, 0, 2))
	tell("its mark is 2", append(missed(0, 3, 4), none...)...)
	b.takes(through(0, 3, 0))
	tell("told is 3", append(missed(0, 4, 4), none...)...)
	b.takes(through(0, 4, 3))
	tell("told is 4", none...)
	b.takes(through(0, most, most))
	tell("past all", none...)
	b.takes(through(1, 4, 2), through(0, 0, 0))
	tell("all is told")

	b = grown(t, two(), 2) // of one who is out nothing is taken
	b.evicts(1)
	b.takes(through(1, 2, 2), through(0, 2, 0))
	b.joins(1)
	tell("told is Last, as it is a member")
	wantErrno(t, "P21.6: Mark", b.c.Mark(1), api.OK)
	tell("the mark", markTo(0, 1), markTo(1, 1))
}

// What has come late says less than what was told: it is asked for anew.
func TestHello(t *testing.T) {
	b := grown(t, two(), 4)
	b.takes(hello(0, 0, 0, false), hello(0, 7, 2, false))
	b.want("P21.4: told is 2", b.tick(), said(append(missed(0, 3, 4), missed(1, 1, 4)...)...))
	b.takes(hello(0, 0, 2, false), hello(0, most, 4, false), hello(1, 0, most, false))
	b.want("P21.4: all is told", b.tick(), silence())
	b.want("P21.4: less than was told", b.take(hello(0, 0, 3, false)), said(probe(0, first)))
	b.want("P21.5: a probe is open", b.tick(), said(probe(0, first)))
	b.want("P21.4: the same probe", b.take(hello(0, 1, 0, false)), said(probe(0, first)))
	b.want("P21.4: another node's probe", b.take(hello(1, first, 4, false)), said(probe(1, first+1)))
	b.want("P21.4: another node's probe", b.take(hello(0, first+1, 0, true)), said(probe(0, first)))
	b.takes(hello(0, 0, 5, false)) // that does not answer the probe
	b.want("P21.5: two probes are open", b.tick(), said(probe(0, first), probe(1, first+1)))
	b.takes(hello(0, first, 4, false)) // that does: what was told when it was opened
	b.want("P21.5: one probe is open", b.tick(), said(probe(1, first+1)))
	b.want("P21.4: told is 5 yet: a new probe", b.take(hello(0, first, 4, false)), said(probe(0, first+2)))
	b.wantState("nobody is out", 4, 0, false, 0, true, true)
	b.takes(hello(0, first+2, 6, false))
	b.want("P21.4: told is 6", b.take(hello(0, 0, 5, false)), said(probe(0, first+3)))
	b.takes(hello(0, first+3, 6, false))
}

// The floor is what was told when the probe was opened, not what was told since.
func TestFloor(t *testing.T) {
	b := grown(t, two(), 4)
	b.takes(through(1, 2, 1))
	b.want("P21.4: Wiped", b.take(hello(1, 0, 3, true)), said(probe(1, first)))
	b.takes(through(1, 4, 0))
	b.want("P21.4: less than was told, to the same probe", b.take(hello(1, 0, 3, false)), said(probe(1, first)))
	b.takes(hello(1, first, 2, false)) // not below the floor
	b.want("P21.4: told stays 4", b.tick(), said(missed(0, 1, 4)...))
	b.want("P21.4: below told", b.take(hello(1, 0, 3, false)), said(probe(1, first+1)))
	b.takes(hello(1, first+1, 3, false)) // below the floor, which is 4: it is out
	b.wantState("out", 4, 0, false, 0, true, false)
}

func TestEvict(t *testing.T) {
	for _, lacks := range []api.Message{hello(1, first, 0, true), hello(1, first, 3, true), hello(1, first, most, true), hello(1, first, 2, false), hello(1, first, 0, false)} {
		b := grown(t, two(), 4)
		b.takes(through(1, 3, 2))
		b.want("P21.4: Wiped", b.take(hello(1, 0, 3, true)), said(probe(1, first)))
		b.takes(lacks)
		b.wantState("out", 4, 0, false, 0, true, false)
		b.want("P21.5: it is told nothing", b.tick(), said(missed(0, 1, 4)...))
		if m := b.anew().c.Members(); m[1] {
			t.Error("P21.1: it is a member, opened anew")
		}
		b.want("P21.2: it is asked nothing", hear(b.c.Submit(1, ops(remove(0)), 0)), said(scan(0, first+1, 4, at(0, 0))))
		b.c.GiveUp()
		b.joins(1)
		wantErrno(t, "P21.6: Mark", b.c.Mark(1), api.OK)
		b.want("P21.4: its mark is 0", b.tick(), said(append([]api.Message{markTo(0, 1)}, append(missed(0, 1, 4), markTo(1, 1))...)...))
	}
}

// Where the log has no room for it nobody goes out; the probe stays open.
func TestEvictWithoutRoom(t *testing.T) {
	b := grown(t, two(), 1)
	b.c.Submit(5, ops(insert(0, row(7))), 0)
	b.takes(vote(0, 2, true))
	b.take(hello(1, 0, 0, true))
	leave(b.d, 0)
	b.takes(hello(1, first, 0, true))
	b.wantState("no room", 1, 0, true, 0, true, true)
	if got := b.tick(); len(got.messages) != 4 || got.messages[2].Ask != first {
		t.Errorf("P21.4: the probe is not open: %+v", got)
	}
	b.d.Remove("filler")
	b.want("P21.4: room", b.take(hello(1, first, 0, true)), heard{[]api.Reply{done(5, 2)}, []api.Message{decide(0, 2, 2)}})
	b.wantState("room", 2, 0, false, 0, true, false)
}

// Of one who is out each other member that has a copy is asked for each of its segments.
func TestFetches(t *testing.T) {
	b := grown(t, four(), 5)
	wantErrno(t, "P21.6: Mark", b.c.Mark(2), api.OK)
	b.evicts(0)
	wants := func(what string, from api.Message, attempt, since, upto uint64, givers ...int) {
		t.Helper()
		var l []api.Message
		places := []api.Segment{at(0, 0), at(2, 0), at(2, 1), at(3, 1)}
		for i, g := range givers {
			if g >= 0 {
				l = append(l, fetch(g, 0, attempt, places[i], since, upto))
			}
		}
		b.want("P21.4: "+what, b.take(from), said(l...))
	}
	wants("from the beginning", hello(0, 0, 0, true), first+1, 0, 5, 1, 3, 1, 3)
	wants("from the beginning", hello(0, 0, 0, true), first+1, 0, 5, 1, 3, 1, 3)
	wants("below the mark", hello(0, 5, 1, false), first+1, 0, 5, 1, 3, 1, 3)
	wants("above Last", hello(0, first, 6, true), first+1, 0, 5, 1, 3, 1, 3)
	wants("above Last", hello(0, first+1, most, false), first+1, 0, 5, 1, 3, 1, 3)
	wants("since the mark", hello(0, 0, 2, true), first+2, 2, 5, 1, 3, 1, 3)
	wants("since Last", hello(0, 0, 5, false), first+3, 5, 5, 1, 3, 1, 3)
	wants("since the mark, anew", hello(0, 0, 2, true), first+4, 2, 5, 1, 3, 1, 3)
	b.commits(6, insert(1, row(9)))
	wants("up to another one", hello(0, 0, 2, true), first+5, 2, 6, 1, 3, 1, 3)
	wantErrno(t, "P21.6: Mark", b.c.Mark(3), api.OK)
	wants("below the mark by now", hello(0, 0, 2, true), first+6, 0, 6, 1, 3, 1, 3)
	b.evicts(3)
	wants("another one is out", hello(0, 0, 0, true), first+6, 0, 6, 1, -1, 1, -1)
	b.evicts(1)
	wants("nobody is there", hello(0, 0, 0, true), first+6, 0, 6)
	b.want("P21.4: another one", b.take(hello(3, 0, 6, true)), said(fetch(2, 3, first+9, at(1, 1), 6, 6), fetch(2, 3, first+9, at(3, 0), 6, 6)))
}

func TestJoined(t *testing.T) {
	b := grown(t, two(), 3)
	b.takes(joined(1, 0, 3)) // it is a member
	b.evicts(1)
	b.takes(joined(1, 0, 3), joined(1, first, 3)) // there is no attempt
	b.wantState("out", 3, 0, false, 0, true, false)
	b.want("P21.4: out", b.take(hello(1, 0, 2, true)), said(fetch(0, 1, first+1, at(0, 0), 2, 3)))
	b.takes(joined(0, first+1, 3))
	for _, x := range []api.Message{joined(1, 0, 3), joined(1, first, 3), joined(1, first+2, 3), joined(1, first+1, 2), joined(1, first+1, 4), joined(1, first+1, 0)} {
		b.takes(x)
		b.wantState("another attempt, another epoch", 3, 0, false, 0, true, false)
	}
	for _, op := range []api.Op{insert(0, row(1)), remove(0)} {
		b.c.Submit(5, ops(op), 0)
		b.takes(joined(1, first+1, 3))
		b.wantState("a transaction is there", 3, 0, true, 0, true, false)
		b.c.GiveUp()
	}
	b.c.Ask(5, query(0), 0, 0) // that is no hindrance
	leave(b.d, 0)
	b.takes(joined(1, first+1, 3))
	b.wantState("no room", 3, 0, false, 1, true, false)
	b.d.Remove("filler")
	b.takes(joined(1, first+1, 3))
	b.wantState("joined", 3, 0, false, 1, true, true)
	b.wantState("joined, opened anew", 3, 0, false, 1, b.anew().c.Members()...)
	b.takes(joined(1, first+1, 3))
	b.takes(through(0, 3, 0))
	b.want("P21.4: told is Last", b.tick(), said(scan(0, first+3, 3, at(0, 0)), scan(1, first+3, 3, at(0, 0))))
	b.want("P21.4: told is Last", b.take(hello(1, 0, 2, false)), said(probe(1, first+4)))
	b.takes(hello(1, first+4, 2, false))
	b.wantState("out again", 3, 0, false, 1, true, false)
	b.takes(joined(1, first+1, 3)) // the attempt is no more
	b.wantState("out again", 3, 0, false, 1, true, false)
}

// What was copied up to an earlier epoch does not make a member; a new attempt does.
func TestJoinedTooLate(t *testing.T) {
	b := grown(t, two(), 1)
	b.evicts(1)
	b.want("P21.4: out", b.take(hello(1, 0, 0, true)), said(fetch(0, 1, first+1, at(0, 0), 0, 1)))
	b.commits(2, insert(0, row(9)))
	b.takes(joined(1, first+1, 1))
	b.want("P21.4: out", b.take(hello(1, 0, 1, false)), said(fetch(0, 1, first+2, at(0, 0), 1, 2)))
	b.takes(joined(1, first+1, 2))
	b.wantState("an earlier attempt", 2, 0, false, 0, true, false)
	b.takes(joined(1, first+2, 2))
	b.wantState("the last attempt", 2, 0, false, 0, true, true)
}

// Another run has other numbers: no attempt, no probe, no reading of an earlier one is known.
func TestNumbersOfRuns(t *testing.T) {
	b := grown(t, two(), 1)
	b.takes(through(0, 1, 0))
	for boot := uint64(2); boot < 6; boot++ {
		b = b.anew()
		b.c.Ask(3, query(0), 0, 0)
		b.c.Submit(4, ops(remove(0)), 0)
		b.want("P21.4: a probe", b.take(hello(0, 0, 0, true)), said(probe(0, boot<<32+3)))
		for n := uint64(1); n < 4; n++ {
			b.takes(rowsTold(0, (boot-1)<<32+n, at(0, 0)), rowsTold(1, (boot-1)<<32+n, at(0, 0)))
			b.want("P21.4: an earlier probe", b.take(hello(0, (boot-1)<<32+n, 0, true)), said(probe(0, boot<<32+3)))
		}
		b.wantState("earlier ones", 1, 0, true, 1, true, true)
	}
}
