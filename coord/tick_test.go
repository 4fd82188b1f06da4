package coord_test

import (
	"testing"

	"hayloft/api"
)

// All that a tick says, in its order.
func TestTick(t *testing.T) {
	b := grown(t, four(), 3)
	wantErrno(t, "P21.6: Mark", b.c.Mark(1), api.OK)
	b.takes(through(0, 3, 1), through(1, 2, 1), through(2, 3, 0), through(3, 1, 5))
	b.take(hello(1, 0, 2, true))
	b.take(hello(3, 0, 0, false))
	b.c.Ask(4, query(1), 0, 0)
	b.c.Submit(5, ops(remove(1)), 0)
	b.c.Ask(6, query(1), 2, 0)
	nodes := []api.Message{decide(1, 3, 3), probe(1, first), markTo(2, 1), decide(3, 2, 2), decide(3, 3, 3), probe(3, first+1)}
	all := []api.Segment{at(3, 0), at(3, 1)}
	wants := func(what string, l ...[]api.Message) {
		t.Helper()
		want := append([]api.Message{}, nodes...)
		for _, x := range l {
			want = append(want, x...)
		}
		for range 2 {
			b.want("P21.5: "+what, b.tick(), said(want...))
		}
	}
	wants("it reads", asks(b.cat, first+3, 3, all...), asks(b.cat, first+2, 3, all...), asks(b.cat, first+4, 2, all...))
	b.takes(rowsTold(0, first+2, at(3, 1)), rowsTold(0, first+3, at(3, 0)))
	wants("some is read", asks(b.cat, first+3, 3, all[1]), asks(b.cat, first+2, 3, all[0]), asks(b.cat, first+4, 2, all...))
	got := b.take(rowsTold(1, first+3, at(3, 1), ver(1, 0, 5)))
	prepared := got.messages
	if len(prepared) != 4 || prepared[2].Kind != api.MsgPrepare || len(prepared[2].Part.Erases)+len(prepared[3].Part.Erases)+len(prepared[0].Part.Erases) != 2 {
		t.Fatalf("P21.2: to prepare: %+v", prepared)
	}
	wants("it prepares", prepared, asks(b.cat, first+2, 3, all[0]), asks(b.cat, first+4, 2, all...))
	b.takes(vote(1, 4, true), vote(2, 4, true))
	wants("some have voted", []api.Message{prepared[0], prepared[3]}, asks(b.cat, first+2, 3, all[0]), asks(b.cat, first+4, 2, all...))
	b.want("P21.4: answered", b.take(rowsTold(2, first+2, at(3, 0))), replied(answered(4, 3)))
	wants("a query is left", []api.Message{prepared[0], prepared[3]}, asks(b.cat, first+4, 2, all...))
	b.takes(hello(3, first+1, 1, false))
	b.takes(vote(3, 4, true), through(2, 0, 1), through(3, 3, 0))
	nodes = []api.Message{decide(1, 3, 3), probe(1, first)}
	wants("less is missing", prepared[:1], asks(b.cat, first+4, 2, all...))
	b.c.GiveUp()
	wants("given up", asks(b.cat, first+4, 2, all...))
}

// Who is out is neither reminded nor asked again; who is back is.
func TestTickMembers(t *testing.T) {
	b := grown(t, two(), 1)
	b.c.Ask(3, query(0), 0, 0)
	b.evicts(0)
	b.want("P21.5: one is out", b.tick(), said(decide(1, 1, 1), scan(1, first, 1, at(0, 0))))
	b.c.Submit(4, ops(insert(0, row(5))), 0)
	part := partsOf(b.cat, []full{{0, 0, row(5)}})[1]
	b.want("P21.5: it prepares", b.tick(), said(decide(1, 1, 1), prepare(1, 2, 1, part), scan(1, first, 1, at(0, 0))))
	b.c.GiveUp()
	b.joins(0)
	b.want("P21.5: it is back", b.tick(), said(decide(1, 1, 1), scan(0, first, 1, at(0, 0)), scan(1, first, 1, at(0, 0))))
}

// Queries that can't be answered any more are told so, and are there no more.
func TestTickDropsQueries(t *testing.T) {
	b := grown(t, four(), 4)
	for n := range 4 {
		b.takes(through(n, 4, 4))
	}
	for i, epoch := range []uint64{3, 1, 4, 2, 1, 3} {
		b.c.Ask(10+i, query(1), epoch, 0)
	}
	all := []api.Segment{at(3, 0), at(3, 1)}
	wantErrno(t, "P21.6: Mark", b.c.Mark(2), api.OK)
	b.wantState("nothing is dropped yet", 4, 2, false, 6, true, true, true, true)
	b.takes(rowsTold(2, first+4, at(3, 0)))
	b.want("P21.4: answered as long as it is there", b.take(rowsTold(0, first+4, at(3, 1), ver(1, 0, 6))), replied(answered(14, 1, row(6))))
	var left []api.Message
	for _, x := range [][2]uint64{{0, 3}, {2, 4}, {3, 2}, {5, 3}} {
		left = append(left, asks(b.cat, first+x[0], x[1], all...)...)
	}
	b.want("P21.5: one is purged", b.tick(), heard{[]api.Reply{refused(11, api.ErrPurged)}, left})
	b.wantState("one is purged", 4, 2, false, 4, true, true, true, true)
	b.want("P21.5: once", b.tick(), said(left...))
	wantErrno(t, "P21.6: Mark", b.c.Mark(3), api.OK)
	b.evicts(1, 2)
	b.wantState("nothing is dropped yet", 4, 3, false, 4, true, false, false, true)
	b.want("P21.5: too many are out", b.tick(), replied(refused(10, api.ErrUnavailable), refused(12, api.ErrUnavailable), refused(13, api.ErrPurged), refused(15, api.ErrUnavailable)))
	b.wantState("all are dropped", 4, 3, false, 0, true, false, false, true)
	b.want("P21.5: once", b.tick(), silence())
}

// A transaction is not dropped, however many are out: it is asked again of who is there.
func TestTickKeepsTransactions(t *testing.T) {
	b := begin(t, four())
	b.c.Submit(3, ops(remove(1)), 0)
	b.evicts(0, 2)
	b.want("P21.5: it reads", b.tick(), said(scan(3, first, 0, at(3, 0)), scan(3, first, 0, at(3, 1))))
	b.takes(rowsTold(3, first, at(3, 0)))
	b.want("P21.4: it prepares", b.take(rowsTold(3, first, at(3, 1))), said(prepare(1, 1, 0, api.Part{}), prepare(3, 1, 0, api.Part{})))
	b.takes(vote(1, 1, true))
	b.want("P21.5: it prepares", b.tick(), said(prepare(3, 1, 0, api.Part{})))
	b.takes(vote(3, 1, true))
	b.want("P21.5: all have voted", b.tick(), silence())
	b.wantState("too many are out", 0, 0, true, 0, false, true, false, true)
}
