package coord_test

import (
	"testing"

	"hayloft/api"
)

func TestMark(t *testing.T) {
	b := grown(t, two(), 4)
	for _, x := range []struct {
		epoch, mark uint64
		want        api.Errno
	}{
		{5, 0, api.ErrArg}, {most, 0, api.ErrArg}, {0, 0, api.OK}, {1, 1, api.OK}, {0, 1, api.ErrArg}, {1, 1, api.OK},
		{5, 1, api.ErrArg}, {3, 3, api.OK}, {2, 3, api.ErrArg}, {1, 3, api.ErrArg}, {4, 4, api.OK}, {4, 4, api.OK}, {5, 4, api.ErrArg},
	} {
		wantErrno(t, "P21.6: Mark", b.c.Mark(x.epoch), x.want)
		b.wantState("marked", 4, x.mark, false, 0, true, true)
		b.wantState("marked, opened anew", 4, b.anew().c.History(), false, 0, true, true)
	}
	b = begin(t, two())
	wantErrno(t, "P21.6: Mark", b.c.Mark(0), api.OK)
	wantErrno(t, "P21.6: Mark", b.c.Mark(1), api.ErrArg)
}

func TestMarkWithoutRoom(t *testing.T) {
	b := grown(t, two(), 2)
	leave(b.d, 0)
	wantErrno(t, "P21.6: no room", b.c.Mark(1), api.ErrDiskFull)
	wantErrno(t, "P21.6: no room is needed", b.c.Mark(0), api.OK)
	b.wantState("no room", 2, 0, false, 0, true, true)
	b.d.Remove("filler")
	wantErrno(t, "P21.6: room", b.c.Mark(1), api.OK)
}

// A mark does not hang on what goes on.
func TestMarkWhileBusy(t *testing.T) {
	b := grown(t, two(), 3)
	b.c.Submit(5, ops(remove(0)), 0)
	b.c.Ask(6, query(0), 1, 0)
	b.evicts(0, 1)
	wantErrno(t, "P21.6: Mark", b.c.Mark(3), api.OK)
	b.wantState("marked", 3, 3, true, 1, false, false)
}

func TestGiveUp(t *testing.T) {
	b := begin(t, two())
	gives := func(what string, want ...api.Reply) {
		t.Helper()
		b.want("P21.6: "+what, hear(b.c.GiveUp(), nil), replied(want...))
		b.wantState(what, b.c.Last(), 0, false, 1, true, true)
	}
	b.c.Ask(3, query(0), 0, 0)
	gives("there is none")
	b.c.Submit(4, ops(remove(0)), 0)
	gives("it reads", failed(4, api.ErrAborted))
	gives("it is given up")
	b.takes(rowsTold(0, first+1, at(0, 0)))
	b.c.Submit(5, ops(insert(0, row(1))), 0)
	b.takes(vote(0, 2, true))
	gives("it prepares", failed(5, api.ErrAborted))
	b.takes(vote(0, 2, true), vote(1, 2, true), vote(1, 2, false))
	b.commits(3, insert(0, row(1)))
	gives("it is committed")
	wantCommits(t, "P21.8", b.anew().c.Commits(), api.Commit{Txn: 3, Epoch: 1, Ops: ops(insert(0, row(1)))})
}
