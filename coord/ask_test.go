package coord_test

import (
	"math"
	"testing"

	"hayloft/api"
	"hayloft/value"
)

// query asks for the first column of a table.
func query(table int) api.Query { return api.Query{Table: table, Columns: []int{0}} }

// asks are what is asked of four, while all are members.
func asks(c api.Catalog, ask, epoch uint64, places ...api.Segment) []api.Message {
	var out []api.Message
	for _, a := range places {
		for j := range c.K + 1 {
			out = append(out, scan((a.Seg+c.Projs[a.Proj].Shift+j)%c.Nodes, ask, epoch, a))
		}
	}
	return out
}

func TestAskErrors(t *testing.T) {
	b := begin(t, four())
	for txn := range uint64(3) {
		b.commits(txn+1, insert(1, row(1)))
	}
	wantErrno(t, "P21.6: Mark", b.c.Mark(2), api.OK)
	bad := []api.Query{{}, query(2), query(-1), {Columns: []int{2}}, {Columns: []int{0}, Limit: -1}, {Columns: []int{0}, LeftOn: 1}, {Join: true, Right: 1, LeftOn: 1, Columns: []int{0}}}
	for range 2 {
		for _, epoch := range []uint64{0, 1, 2, 3, 4, most} {
			for _, q := range bad {
				b.want("P21.3: it can't be asked", hear(b.c.Ask(5, q, epoch, 0)), replied(refused(5, api.ErrInvalid)))
			}
		}
		for _, epoch := range []uint64{4, 5, 1 << 63, most} {
			b.want("P21.3: an epoch that is not there", hear(b.c.Ask(-7, query(0), epoch, 0)), replied(refused(-7, api.ErrNotClosed)))
		}
		b.want("P21.3: an epoch below the mark", hear(b.c.Ask(6, query(0), 1, 0)), replied(refused(6, api.ErrPurged)))
		b.wantState("refused", 3, 2, false, 0, b.c.Members()...)
		if b.c.Members()[0] {
			b.evicts(0, 3) // and once more
		}
	}
	for _, epoch := range []uint64{0, 2, 3} {
		b.want("P21.3: too many are out", hear(b.c.Ask(6, query(0), epoch, 0)), replied(refused(6, api.ErrUnavailable)))
	}
	b.joins(0)
	for i, epoch := range []uint64{2, 3, 0} {
		if got := hear(b.c.Ask(6, query(0), epoch, 0)); len(got.replies) > 0 || b.c.Asked() != i+1 {
			t.Errorf("P21.3: %+v", got)
		}
	}
}

// What a query needs is asked of all who have it, by the way that pick chooses, at its epoch.
func TestAsk(t *testing.T) {
	b := begin(t, four())
	c, number := b.cat, first-1
	next := func() uint64 { number++; return number }
	ps, qrs, ss := []api.Segment{at(0, 0), at(0, 1)}, []api.Segment{at(1, 0), at(1, 1), at(2, 0), at(2, 1)}, []api.Segment{at(3, 0), at(3, 1)}
	b.want("P21.3: at no epoch", hear(b.c.Ask(6, query(0), 0, 0)), said(asks(c, next(), 0, ps...)...))
	b.commits(1, insert(1, row(1)))
	b.commits(2, insert(1, row(1)))
	b.want("P21.3: at the last one", hear(b.c.Ask(6, query(0), 0, 0)), said(asks(c, next(), 2, ps...)...))
	b.want("P21.3: at the last one", hear(b.c.Ask(6, query(0), 2, 2)), said(asks(c, next(), 2, ps...)...))
	b.want("P21.3: at the first one", hear(b.c.Ask(6, query(0), 1, 1)), said(asks(c, next(), 1, qrs...)...))
	b.want("P21.3: the second way", hear(b.c.Ask(6, query(0), 1, -1)), said(asks(c, next(), 1, qrs...)...))
	b.want("P21.3: one way alone", hear(b.c.Ask(6, query(1), 1, math.MinInt)), said(asks(c, next(), 1, ss...)...))
	both := api.Query{Join: true, Right: 1, Columns: []int{2}}
	b.want("P21.3: both tables", hear(b.c.Ask(6, both, 0, 0)), said(asks(c, next(), 2, append(ps, ss...)...)...))
	both = api.Query{Table: 1, Join: true, Columns: []int{2}}
	b.want("P21.3: the other way round", hear(b.c.Ask(6, both, 0, 1)), said(asks(c, next(), 2, append(ss, qrs...)...)...))
	self := api.Query{Join: true, LeftOn: 1, RightOn: 1, Columns: []int{2}}
	b.want("P21.3: one table twice", hear(b.c.Ask(6, self, 0, 1)), said(asks(c, next(), 2, qrs...)...))
	b.wantState("nothing is answered", 2, 0, false, 9, true, true, true, true)
	b.evicts(2)
	next() // of the probe
	b.want("P21.3: of the members", hear(b.c.Ask(6, query(1), 0, 0)), said(scan(3, next(), 2, at(3, 0)), scan(3, number, 2, at(3, 1)), scan(0, number, 2, at(3, 1))))
}

func TestAnswers(t *testing.T) {
	b := begin(t, four())
	b.commits(1, insert(1, row(1)))
	b.commits(2, insert(1, row(1)))
	b.c.Ask(6, api.Query{Columns: []int{1, 0}}, 1, 0)
	b.takes(rowsTold(1, first, at(0, 1), ver(1, 0, "b", 7), ver(2, 0, "later", 9)))
	b.want("P21.4: all are there", b.take(rowsTold(0, first, at(0, 0), ver(1, 1, "a", 7))), replied(answered(6, 1, row("a", 7), row("b", 7))))
	b.wantState("answered", 2, 0, false, 0, true, true, true, true)
	b.takes(rowsTold(0, first, at(0, 0), ver(1, 1, "a", 7)))

	b.c.Ask(7, query(0), 0, 1) // of two projections
	b.takes(rowsTold(1, first+1, at(1, 0), ver(1, 0, 5), ver(1, 1, 6)), rowsTold(2, first+1, at(1, 1), ver(2, 0, 4)), rowsTold(3, first+1, at(2, 0)))
	b.want("P21.4: all are there", b.take(rowsTold(0, first+1, at(2, 1), ver(2, 0, "x"), ver(1, 1, "y"))), replied(answered(7, 2, row(4), row(6))))

	b.c.Ask(8, api.Query{Join: true, Right: 1, Columns: []int{1, 2}, Order: []api.Order{{Column: 0, Down: true}}}, 0, 0)
	ask := first + 2
	b.takes(rowsTold(0, ask, at(0, 0), ver(1, 0, "a", 7), ver(1, 1, "b", 8)), rowsTold(3, ask, at(3, 1), ver(1, 0, 8), ver(1, 1, 7)), rowsTold(2, ask, at(3, 0)))
	b.want("P21.4: a join", b.take(rowsTold(1, ask, at(0, 1))), replied(answered(8, 2, row("b", 8), row("a", 7))))

	b.c.Ask(9, api.Query{Table: 1, Join: true, Right: 1, Group: true, Aggs: []api.Agg{{}}}, 0, 0)
	b.takes(rowsTold(3, first+3, at(3, 1), ver(1, 0, 8), ver(1, 1, 7), ver(1, 2, 8)))
	b.want("P21.4: a table with itself", b.take(rowsTold(2, first+3, at(3, 0))), replied(answered(9, 2, row(5))))
}

// Of each segment the first answer counts; No is none, nor is what is of another segment, of another query, of one who is out.
func TestRows(t *testing.T) {
	b := begin(t, four())
	b.c.Ask(6, query(0), 0, 0)
	for _, n := range []int{3, 1, 0} { // whoever says it
		no := rowsTold(n, first, at(0, 0), ver(0, 1, "no", 1))
		no.No = true
		b.takes(no)
		for _, a := range []api.Segment{at(1, 0), at(0, 2), at(0, -1), at(-1, 0), at(3, 0), at(math.MaxInt, math.MinInt)} {
			b.takes(rowsTold(n, first, a, ver(0, 1, "no", 1)))
		}
		for _, ask := range []uint64{0, 1, first - 1, first + 1, most} {
			b.takes(rowsTold(n, ask, at(0, 0), ver(0, 1, "no", 1)), rowsTold(n, ask, at(0, 1), ver(0, 1, "no", 1)))
		}
	}
	b.evicts(2)
	b.takes(rowsTold(2, first, at(0, 1), ver(0, 1, "no", 1)), rowsTold(2, first, at(0, 0), ver(0, 1, "no", 1)))
	b.takes(rowsTold(3, first, at(0, 0), ver(0, 1, "yes", 1)), rowsTold(0, first, at(0, 0), ver(0, 2, "no", 2)), rowsTold(3, first, at(0, 0)))
	b.want("P21.4: the last one", b.take(rowsTold(3, first, at(0, 1), ver(0, 5, "yes", 2))), replied(answered(6, 0, row(1), row(2))))
}

// No rows at all are an answer too.
func TestNoRows(t *testing.T) {
	b := begin(t, four())
	b.c.Ask(6, query(1), 0, 0)
	b.takes(rowsTold(2, first, at(3, 0)), rowsTold(2, first, at(3, 0), ver(0, 1, 5)))
	b.want("P21.4: no rows", b.take(rowsTold(0, first, at(3, 1))), replied(answered(6, 0)))
	b.c.Ask(7, api.Query{Group: true, Aggs: []api.Agg{{}}}, 0, 1)
	for i, a := range []api.Segment{at(1, 0), at(1, 1), at(2, 0)} {
		b.takes(rowsTold(i, first+1, a))
	}
	b.want("P21.4: no rows", b.take(rowsTold(3, first+1, at(2, 1))), replied(answered(7, 0, row(0))))
}

// Each query has what it was told, whatever others are.
func TestSeveralQueries(t *testing.T) {
	b := begin(t, two())
	for i := range 5 {
		b.c.Ask(10+i, query(0), 0, 0)
	}
	b.wantState("five", 0, 0, false, 5, true, true)
	for i, n := range []uint64{2, 0, 4, 3, 1} {
		b.want("P21.4: an answer", b.take(rowsTold(0, first+n, at(0, 0), ver(0, 0, int(n)))), replied(answered(10+int(n), 0, row(int(n)))))
		b.takes(rowsTold(0, first+n, at(0, 0), ver(0, 0, int(n))))
		b.wantState("some", 0, 0, false, 4-i, true, true)
	}
}

// An answer that is too long is none.
func TestAnswerTooLong(t *testing.T) {
	var l []api.Version
	for i := range api.MaxAnswer + 1 {
		l = append(l, ver(0, uint32(i), i))
	}
	b := begin(t, two())
	b.c.Ask(6, query(0), 0, 0)
	b.want("P21.4: too long", b.take(rowsTold(0, first, at(0, 0), l...)), replied(refused(6, api.ErrFull)))
	b.wantState("too long", 0, 0, false, 0, true, true)
	b.c.Ask(7, api.Query{Join: true, Group: true, Aggs: []api.Agg{{}}}, 0, 0)
	for i := range l {
		l[i].Row = row(1)
	}
	b.want("P21.4: a join too long", b.take(rowsTold(1, first+1, at(0, 0), l...)), replied(refused(7, api.ErrFull)))
	b.c.Ask(8, query(0), 0, 0)
	got := b.take(rowsTold(0, first+2, at(0, 0), l[1:]...))
	if len(got.replies) != 1 || got.replies[0].Kind != api.ReplyRows || len(got.replies[0].Rows) != api.MaxAnswer {
		t.Errorf("P21.4: not too long: %+v", got)
	}
}

// Whatever a message's rows are, a call ends.
func TestOddRows(t *testing.T) {
	b := begin(t, four())
	odd := []api.Version{{Deleted: most}, ver(0, 1), ver(0, 1, 1, 2, 3, 4, 5, 6, 7, 8, 9), {Row: []api.Value{{Kind: 9, Int: 5}, {Text: "a"}}}, ver(0, 1, "a"), ver(most, math.MaxUint32, 1)}
	for pick := range 2 {
		b.c.Ask(6, api.Query{Join: true, Columns: []int{0, 3}, Where: []api.Term{{Column: 1, Op: api.TermAbove, Value: value.Text("")}}}, 0, pick)
		b.c.Submit(7, ops(remove(0)), pick)
		for ask := range uint64(6) {
			for proj := range 3 {
				for seg := range 2 {
					b.take(rowsTold(1, first+ask, at(proj, seg), odd...))
				}
			}
		}
		b.wantState("odd rows", 0, 0, true, 0, true, true, true, true)
		b.c.GiveUp()
	}
}
