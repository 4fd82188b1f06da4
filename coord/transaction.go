package coord

import (
	"slices"

	"hayloft/api"
	"hayloft/catalog"
	"hayloft/expr"
	"hayloft/value"
)

// transaction is one that is not decided. It reads, if it deletes, what it must know for that; then it prepares.
type transaction struct {
	number  uint64
	to      int
	ops     []api.Op
	reading *reading   // nil, when it prepares
	parts   []api.Part // of each node
	voted   []bool
}

// begin has the log begin a transaction, if that may be.
func (c *Coord) begin(ops []api.Op) (uint64, api.Errno) {
	switch {
	case !c.areOps(ops):
		return 0, api.ErrInvalid
	case c.current != nil:
		return 0, api.ErrBusy
	case c.tooManyOut():
		return 0, api.ErrUnavailable
	case c.settle() != api.OK:
		return 0, api.ErrFull
	}
	number, e := c.log.Begin()
	if c.heed(e) != api.OK {
		return 0, api.ErrFull
	}
	return number, api.OK
}

// settle aborts what the log has undecided.
func (c *Coord) settle() api.Errno {
	number, undecided := c.log.Undecided()
	if !undecided {
		return api.OK
	}
	return c.heed(c.log.Abort(number))
}

// areOps tells whether ops are what a transaction may do.
func (c *Coord) areOps(ops []api.Op) bool {
	many := 0
	for _, o := range ops {
		if !c.isOp(o) {
			return false
		}
		many += len(o.Rows)
	}
	return len(ops) > 0 && len(ops) <= api.MaxOps && many <= api.MaxInsert
}

func (c *Coord) isOp(o api.Op) bool {
	if o.Table < 0 || o.Table >= len(c.catalog.Tables) {
		return false
	}
	table := c.catalog.Tables[o.Table]
	switch o.Kind {
	case api.OpInsert:
		bad := slices.ContainsFunc(o.Rows, func(row []api.Value) bool { return value.Row(table, row) != api.OK })
		return len(o.Rows) > 0 && len(o.Where) == 0 && !bad
	case api.OpDelete:
		return len(o.Rows) == 0 && expr.Check(table.Columns, o.Where) == api.OK
	}
	return false
}

// start begins the transaction's work.
func (c *Coord) start(pick int) []api.Message {
	t := c.current
	tables := rising(t.wheres())
	if len(tables) == 0 {
		return c.prepare()
	}
	t.reading = c.read(tables, c.Last(), pick)
	return c.scan(t.reading)
}

// wheres are the predicates of what goes, of each table from which something goes.
func (t *transaction) wheres() map[int][][]api.Term {
	tables := map[int][][]api.Term{}
	for _, o := range t.ops {
		if o.Kind == api.OpDelete {
			tables[o.Table] = append(tables[o.Table], o.Where)
		}
	}
	return tables
}

// rising are the tables of wheres, in order.
func rising(wheres map[int][][]api.Term) []int {
	var l []int
	for table := range wheres {
		l = append(l, table)
	}
	slices.Sort(l)
	return l
}

// prepare asks the members for their votes.
func (c *Coord) prepare() []api.Message {
	t := c.current
	t.parts = catalog.Parts(c.catalog, t.inserts(), c.erases())
	t.voted = make([]bool, c.catalog.Nodes)
	t.reading = nil
	return c.askVotes()
}

// inserts are the rows that come. At which epoch they do is not known yet.
func (t *transaction) inserts() []catalog.Full {
	var l []catalog.Full
	for _, o := range t.ops {
		for _, row := range o.Rows {
			l = append(l, catalog.Full{Table: o.Table, Id: api.RowId{Number: uint32(len(l))}, Row: row})
		}
	}
	return l
}

// erases are the rows that go, out of those that were read.
func (c *Coord) erases() []catalog.Full {
	t := c.current
	wheres := t.wheres()
	var l []catalog.Full
	for _, table := range rising(wheres) {
		for _, v := range c.full(t.reading, table) {
			if slices.ContainsFunc(wheres[table], func(where []api.Term) bool { return expr.All(where, v.Row) }) {
				l = append(l, catalog.Full{Table: table, Id: v.Id, Row: v.Row})
			}
		}
	}
	return l
}

// askVotes tells the members that have not voted what they are to do.
func (c *Coord) askVotes() []api.Message {
	t := c.current
	var l []api.Message
	for _, n := range c.members() {
		if !t.voted[n] {
			l = append(l, c.say(n, api.Message{Kind: api.MsgPrepare, Txn: t.number, Base: c.Last(), Part: copyPart(t.parts[n])}))
		}
	}
	return l
}

// commit commits the transaction, if nobody's vote is missing.
func (c *Coord) commit() ([]api.Reply, []api.Message) {
	t := c.current
	if t == nil || !c.allVoted() || c.tooManyOut() {
		return nil, nil
	}
	switch e := c.heed(c.log.Commit(t.number, c.Last()+1, t.ops)); {
	case c.dead:
		return nil, nil
	case e != api.OK:
		return c.abort(api.ErrFull), nil
	}
	c.current = nil
	var l []api.Message
	for _, n := range c.members() {
		l = append(l, c.say(n, api.Message{Kind: api.MsgDecide, Epoch: c.Last(), Txn: t.number}))
	}
	return []api.Reply{{To: t.to, Kind: api.ReplyDone, Epoch: c.Last()}}, l
}

// allVoted tells whether the transaction prepares, and all members have voted.
func (c *Coord) allVoted() bool {
	t := c.current
	return t.reading == nil && !slices.ContainsFunc(c.members(), func(n int) bool { return !t.voted[n] })
}

// abort drops the transaction. Where the log has no room to say so it stays undecided there, until the next one begins.
func (c *Coord) abort(code api.Errno) []api.Reply {
	t := c.current
	if c.settle(); c.dead {
		return nil
	}
	c.current = nil
	return failed(t.to, code)
}

// failed is the reply to a transaction that has no effect.
func failed(to int, code api.Errno) []api.Reply {
	return []api.Reply{{To: to, Kind: api.ReplyFailed, Code: code}}
}
