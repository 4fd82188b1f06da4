package coord

import (
	"hayloft/api"
	"hayloft/catalog"
)

// node is what is known of one, as long as the coordinator runs.
type node struct {
	told    uint64 // up to which epoch it has said that it has everything
	mark    uint64
	probe   *probe   // nil, if none is open
	attempt *attempt // nil, if there is none
}

// probe is a question whether a node, which seems to, does lack something: what it said may have been on its way for long.
type probe struct {
	number uint64
	floor  uint64 // what it had told when it was asked first
}

// attempt is one to bring a node back.
type attempt struct {
	number uint64
	since  uint64
	upto   uint64
}

// members are the numbers of those that it counts on, rising.
func (c *Coord) members() []int {
	var l []int
	for n, is := range c.Members() {
		if is {
			l = append(l, n)
		}
	}
	return l
}

func (c *Coord) isMember(n int) bool { return c.Members()[n] }

// tooManyOut tells whether there may be segments of which no member has a copy.
func (c *Coord) tooManyOut() bool { return c.catalog.Nodes-len(c.members()) > c.catalog.K }

// remindMembers says again to each member what it has not told that it has heard.
func (c *Coord) remindMembers() []api.Message {
	var l []api.Message
	for _, n := range c.members() {
		known := c.nodes[n]
		if known.mark < c.History() {
			l = append(l, c.say(n, api.Message{Kind: api.MsgMark, Mark: c.History()}))
		}
		if known.told < c.Last() {
			for _, x := range c.Commits()[known.told:] {
				l = append(l, c.say(n, api.Message{Kind: api.MsgDecide, Epoch: x.Epoch, Txn: x.Txn}))
			}
		}
		if known.probe != nil {
			l = append(l, c.askProbe(n))
		}
	}
	return l
}

func (c *Coord) remindTransaction() []api.Message {
	switch t := c.current; {
	case t == nil:
		return nil
	case t.reading != nil:
		return c.scan(t.reading)
	}
	return c.askVotes()
}

func (c *Coord) askProbe(n int) api.Message {
	return c.say(n, api.Message{Kind: api.MsgProbe, Ask: c.nodes[n].probe.number})
}

// bringBack has the members send a node that is out what it lacks: all that came behind an epoch up to which it has everything, if that is one of which they may tell.
func (c *Coord) bringBack(n int, since uint64) []api.Message {
	if since < c.History() || since > c.Last() {
		since = 0
	}
	known := &c.nodes[n]
	if a := known.attempt; a == nil || a.since != since || a.upto != c.Last() {
		known.attempt = &attempt{number: c.fresh(), since: since, upto: c.Last()}
	}
	a := known.attempt
	var l []api.Message
	for _, at := range catalog.Of(c.catalog, n) {
		for _, giver := range c.holders(at) {
			l = append(l, c.say(giver, api.Message{Kind: api.MsgFetch, Node: n, Attempt: a.number, At: at, Since: a.since, Epoch: a.upto}))
		}
	}
	return l
}
