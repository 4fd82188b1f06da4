package coord_test

import (
	"math/rand/v2"

	"hayloft/api"
	"hayloft/value"
)

// near is n, or, now and then, one beside it.
func near(r *rand.Rand, n uint64) uint64 {
	if r.IntN(12) == 0 {
		return max(n, 2) - 2 + uint64(r.IntN(5))
	}
	return n
}

// one is any of a list's, or, if there is none, or now and then, the other one.
func one[T any](r *rand.Rand, l []T, other T) T {
	if len(l) == 0 || r.IntN(20) == 0 {
		return other
	}
	return l[r.IntN(len(l))]
}

// someValue is one of few, such as its column takes, but for now and then.
func someValue(r *rand.Rand, c api.Column) api.Value {
	switch {
	case r.IntN(150) == 0:
		return value.Bool(true)
	case c.Null && r.IntN(4) == 0:
		return value.Null()
	case c.Kind == api.KindText:
		return value.Text([]string{"", "a", "ab", "b"}[r.IntN(4)])
	}
	return value.Int(int64(r.IntN(5)))
}

func someRows(r *rand.Rand, t api.Table, many int) [][]api.Value {
	var l [][]api.Value
	for range many {
		var row []api.Value
		for _, c := range t.Columns {
			row = append(row, someValue(r, c))
		}
		l = append(l, row)
	}
	return l
}

func someTerms(r *rand.Rand, columns []api.Column) []api.Term {
	var l []api.Term
	for range r.IntN(3) {
		i := r.IntN(len(columns))
		x := api.Term{Column: i, Op: r.IntN(8), Value: someValue(r, api.Column{Kind: columns[i].Kind})}
		l = append(l, x)
	}
	return l
}

func someOps(r *rand.Rand, cat api.Catalog) []api.Op {
	var l []api.Op
	for range 1 + r.IntN(3) {
		i := r.IntN(len(cat.Tables))
		o := api.Op{Table: i, Rows: someRows(r, cat.Tables[i], 1+r.IntN(3))}
		if r.IntN(2) == 0 {
			o = api.Op{Kind: api.OpDelete, Table: i, Where: someTerms(r, cat.Tables[i].Columns)}
		}
		if r.IntN(60) == 0 {
			o.Table = r.IntN(5) - 1
		}
		if r.IntN(60) == 0 {
			o.Kind = r.IntN(4) - 1
		}
		l = append(l, o)
	}
	return l
}

// someQuery draws one, mostly such as can be asked.
func someQuery(r *rand.Rand, cat api.Catalog) api.Query {
	q := api.Query{Table: r.IntN(len(cat.Tables)), Limit: r.IntN(4)}
	columns := cat.Tables[q.Table].Columns
	if r.IntN(2) == 0 {
		q.Join, q.Right = true, r.IntN(len(cat.Tables))
		columns = append(append([]api.Column{}, columns...), cat.Tables[q.Right].Columns...)
	}
	q.Where = someTerms(r, columns)
	if q.Group = r.IntN(2) == 0; q.Group {
		q.By, q.Aggs = []int{r.IntN(len(columns))}, []api.Agg{{}, {Op: api.AggMax, Column: r.IntN(len(columns))}}
	} else {
		q.Columns = []int{r.IntN(len(columns)), r.IntN(len(columns))}
	}
	if r.IntN(2) == 0 {
		q.Order = []api.Order{{Column: 1, Down: true}}
	}
	if r.IntN(30) == 0 {
		q.Table, q.Limit = r.IntN(4)-1, r.IntN(4)-1
	}
	return q
}

// someVersions are rows of a segment: of few names, such that they often stand in all projections of a table.
func someVersions(r *rand.Rand, w *world, place api.Segment) []api.Version {
	if place.Proj < 0 || place.Proj >= len(w.cat.Projs) {
		return nil
	}
	var l []api.Version
	for epoch := range w.log.last() {
		for number := range uint32(3) {
			if r.IntN(3) == 0 {
				continue
			}
			v := api.Version{Id: name(epoch+1, number)}
			p := w.cat.Projs[place.Proj]
			for _, c := range p.Columns {
				v.Row = append(v.Row, someValue(r, w.cat.Tables[p.Table].Columns[c]))
			}
			l = append(l, v)
			if len(l) > 8 {
				return l
			}
		}
	}
	return l
}

// somePlace is one that is missing, mostly.
func somePlace(r *rand.Rand, w *world, p *pending) api.Segment {
	var l []api.Segment
	for _, place := range p.places {
		if _, got := p.got[place]; !got {
			l = append(l, place)
		}
	}
	return one(r, l, api.Segment{Proj: r.IntN(len(w.cat.Projs)+2) - 1, Seg: r.IntN(w.cat.Segments+2) - 1})
}

// someHeard draws what a coordinator may hear: mostly what it waits for.
func someHeard(r *rand.Rand, w *world) api.Message {
	x := api.Message{Kind: 1 + r.IntN(12), From: r.IntN(w.cat.Nodes), To: w.cat.Nodes, Epoch: uint64(r.IntN(int(w.log.last()) + 2))}
	known := w.marks[x.From]
	switch r.IntN(6) {
	case 0, 1:
		x.Kind, x.Txn, x.Yes = api.MsgVote, near(r, w.log.begun), r.IntN(12) > 0
	case 2:
		x = someRowsTold(r, w, x)
	case 3:
		x.Kind, x.Epoch, x.Mark = api.MsgThrough, near(r, x.Epoch), known+uint64(r.IntN(2))
	case 4:
		x = someHello(r, w, x)
	case 5:
		x.Kind, x.Epoch, x.Attempt = api.MsgJoined, near(r, w.log.last()), near(r, w.tries[x.From].number)
	}
	if r.IntN(40) == 0 {
		x.From, x.To = r.IntN(w.cat.Nodes+3)-1, r.IntN(w.cat.Nodes+3)-1
	}
	if r.IntN(60) == 0 {
		x.Kind = r.IntN(16) - 1
	}
	return x
}

func someRowsTold(r *rand.Rand, w *world, x api.Message) api.Message {
	l := w.queries
	if w.txn != nil {
		l = append([]*pending{w.txn, w.txn}, l...)
	}
	p := one(r, l, &pending{ask: uint64(r.IntN(9)), pick: 1})
	x.Kind, x.Ask, x.At, x.No = api.MsgRows, near(r, p.ask), somePlace(r, w, p), r.IntN(10) == 0
	x.Versions = someVersions(r, w, x.At)
	return x
}

// someHello is, mostly, of one who lacks nothing.
func someHello(r *rand.Rand, w *world, x api.Message) api.Message {
	x.Kind, x.Epoch = api.MsgHello, near(r, w.told[x.From])
	if r.IntN(4) == 0 {
		x.Epoch = uint64(r.IntN(int(w.log.last()) + 2))
	}
	x.Wiped = r.IntN(8) == 0
	if r.IntN(2) == 0 {
		x.Ask = near(r, w.probes[x.From].number)
	}
	return x
}
