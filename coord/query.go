package coord

import (
	"hayloft/api"
	"hayloft/plan"
)

// query is one that is not answered.
type query struct {
	*reading
	to    int
	asked api.Query
}

// mayAsk tells why a query is not even begun.
func (c *Coord) mayAsk(q api.Query, epoch uint64) api.Errno {
	switch {
	case plan.Check(c.catalog, q) != api.OK:
		return api.ErrInvalid
	case epoch > c.Last():
		return api.ErrNotClosed
	}
	return c.mayRead(epoch)
}

// mayRead tells why an epoch can't be read.
func (c *Coord) mayRead(epoch uint64) api.Errno {
	switch {
	case epoch < c.History():
		return api.ErrPurged
	case c.tooManyOut():
		return api.ErrUnavailable
	}
	return api.OK
}

// answer answers a query of which everything was read.
func (c *Coord) answer(q *query) api.Reply {
	left, right := c.rows(q, q.asked.Table), [][]api.Value(nil)
	if q.asked.Join {
		right = c.rows(q, q.asked.Right)
	}
	rows, e := plan.Answer(q.asked, left, right)
	if e != api.OK {
		return refused(q.to, api.ErrFull)
	}
	return api.Reply{To: q.to, Kind: api.ReplyRows, Epoch: q.epoch, Rows: rows}
}

// rows are those of a table that a query has read.
func (c *Coord) rows(q *query, table int) [][]api.Value {
	var l [][]api.Value
	for _, v := range c.full(q.reading, table) {
		l = append(l, v.Row)
	}
	return l
}

// dropQueries drops those that can't be answered any more.
func (c *Coord) dropQueries() []api.Reply {
	var replies []api.Reply
	var left []*query
	for _, q := range c.queries {
		if e := c.mayRead(q.epoch); e != api.OK {
			replies = append(replies, refused(q.to, e))
			continue
		}
		left = append(left, q)
	}
	c.queries = left
	return replies
}

// refused is the reply to a query that has no answer.
func refused(to int, code api.Errno) api.Reply {
	return api.Reply{To: to, Kind: api.ReplyError, Code: code}
}
