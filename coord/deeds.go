package coord

import (
	"slices"

	"hayloft/api"
)

// deeds are what is done with messages, by their kinds.
func (c *Coord) deeds() map[int]func(x api.Message) ([]api.Reply, []api.Message) {
	return map[int]func(x api.Message) ([]api.Reply, []api.Message){
		api.MsgVote:    c.takeVote,
		api.MsgRows:    c.takeRows,
		api.MsgThrough: c.takeThrough,
		api.MsgHello:   c.takeHello,
		api.MsgJoined:  c.takeJoined,
	}
}

func (c *Coord) takeVote(x api.Message) ([]api.Reply, []api.Message) {
	t := c.current
	if t == nil || t.reading != nil || t.number != x.Txn || !c.isMember(x.From) {
		return nil, nil
	}
	if !x.Yes {
		return c.abort(api.ErrFull), nil
	}
	t.voted[x.From] = true
	return c.commit()
}

func (c *Coord) takeRows(x api.Message) ([]api.Reply, []api.Message) {
	if x.No || !c.isMember(x.From) {
		return nil, nil
	}
	if t := c.current; t != nil && t.reading != nil && t.reading.number == x.Ask {
		if t.reading.take(x); t.reading.whole() {
			return nil, c.prepare()
		}
		return nil, nil
	}
	i := slices.IndexFunc(c.queries, func(q *query) bool { return q.number == x.Ask })
	if i < 0 {
		return nil, nil
	}
	q := c.queries[i]
	if q.take(x); !q.whole() {
		return nil, nil
	}
	c.queries = slices.Delete(c.queries, i, i+1)
	return []api.Reply{c.answer(q)}, nil
}

func (c *Coord) takeThrough(x api.Message) ([]api.Reply, []api.Message) {
	if c.isMember(x.From) {
		known := &c.nodes[x.From]
		known.told, known.mark = max(known.told, x.Epoch), max(known.mark, x.Mark)
	}
	return nil, nil
}

func (c *Coord) takeHello(x api.Message) ([]api.Reply, []api.Message) {
	known := &c.nodes[x.From]
	switch {
	case !c.isMember(x.From):
		return nil, c.bringBack(x.From, x.Epoch)
	case known.probe != nil && known.probe.number == x.Ask:
		return c.takeProbed(x)
	case !x.Wiped && x.Epoch >= known.told:
		known.told = x.Epoch
		return nil, nil
	case known.probe == nil:
		known.probe = &probe{number: c.fresh(), floor: known.told}
	}
	return nil, []api.Message{c.askProbe(x.From)}
}

// takeProbed takes the answer of a probe: who lacks something is out.
func (c *Coord) takeProbed(x api.Message) ([]api.Reply, []api.Message) {
	known := &c.nodes[x.From]
	if !x.Wiped && x.Epoch >= known.probe.floor {
		known.probe, known.told = nil, max(known.told, x.Epoch)
		return nil, nil
	}
	if c.heed(c.log.Evict(x.From)) != api.OK {
		return nil, nil
	}
	*known = node{}
	return c.commit()
}

func (c *Coord) takeJoined(x api.Message) ([]api.Reply, []api.Message) {
	known := &c.nodes[x.From]
	if c.isMember(x.From) || known.attempt == nil || known.attempt.number != x.Attempt || x.Epoch != c.Last() || c.current != nil {
		return nil, nil
	}
	if c.heed(c.log.Join(x.From)) == api.OK {
		known.told, known.attempt = c.Last(), nil
	}
	return nil, nil
}
