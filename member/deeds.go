package member

import (
	"slices"

	"hayloft/api"
	"hayloft/recover"
)

// deeds are what is done with messages, by their kinds.
func (m *Member) deeds() map[int]func(x api.Message) []api.Message {
	return map[int]func(x api.Message) []api.Message{
		api.MsgPrepare: m.prepare,
		api.MsgDecide:  m.decide,
		api.MsgScan:    m.scan,
		api.MsgFetch:   m.fetch,
		api.MsgCopy:    m.gather,
		api.MsgMark:    m.setMark,
		api.MsgProbe:   m.probe,
	}
}

// hears tells whether a message is for it, from one that may say such a one.
func (m *Member) hears(x api.Message) bool {
	if x.Kind == api.MsgCopy {
		return x.To == m.node && m.isNode(x.From)
	}
	return x.To == m.node && x.From == m.nodes
}

func (m *Member) isNode(n int) bool { return 0 <= n && n < m.nodes }

// say says something to the coordinator.
func (m *Member) say(x api.Message) []api.Message {
	x.From, x.To = m.node, m.nodes
	return []api.Message{x}
}

func (m *Member) hello(ask uint64) []api.Message {
	return m.say(api.Message{Kind: api.MsgHello, Ask: ask, Epoch: m.through(), Wiped: m.Wiped()})
}

func (m *Member) tellThrough() []api.Message {
	return m.say(api.Message{Kind: api.MsgThrough, Epoch: m.through(), Mark: m.mark()})
}

func (m *Member) probe(x api.Message) []api.Message { return m.hello(x.Ask) }

func (m *Member) prepare(x api.Message) []api.Message {
	if m.Wiped() {
		return m.hello(0)
	}
	if x.Base != m.through() {
		return m.tellThrough()
	}
	prepared := m.store.Prepared()
	if n := len(prepared); n > 0 && prepared[n-1] > x.Txn {
		return nil
	}
	yes := m.forgetBelow(x.Txn, prepared) == api.OK && m.store.Prepare(x.Txn, x.Part) == api.OK
	return m.say(api.Message{Kind: api.MsgVote, Txn: x.Txn, Yes: yes})
}

// forgetBelow forgets those of the prepared transactions that are ahead of one: that there is a later one tells that they were aborted.
func (m *Member) forgetBelow(txn uint64, prepared []uint64) api.Errno {
	for _, earlier := range prepared {
		if earlier >= txn {
			break
		}
		if e := m.store.Forget(earlier); e != api.OK {
			return e
		}
	}
	return api.OK
}

func (m *Member) decide(x api.Message) []api.Message {
	if m.Wiped() {
		return m.hello(0)
	}
	if x.Epoch == 0 || x.Epoch-1 != m.through() { // behind the last epoch of all there is none
		return m.tellThrough()
	}
	if !slices.Contains(m.store.Prepared(), x.Txn) {
		m.lost = true
		return m.hello(0)
	}
	if m.store.Decide(x.Epoch, x.Txn) != api.OK {
		return nil
	}
	return m.tellThrough()
}

func (m *Member) setMark(x api.Message) []api.Message {
	if m.Wiped() {
		return nil
	}
	m.store.SetMark(min(x.Mark, m.through())) // whether that was done is told by the mark
	return m.tellThrough()
}

func (m *Member) scan(x api.Message) []api.Message {
	rows := api.Message{Kind: api.MsgRows, Ask: x.Ask, At: x.At}
	if m.tells(x.At, x.Epoch) {
		rows.Versions = slices.Collect(m.store.Scan(x.At, x.Epoch))
	} else {
		rows.No = true
	}
	return m.say(rows)
}

func (m *Member) fetch(x api.Message) []api.Message {
	if !m.tells(x.At, x.Epoch) || x.Since != 0 && x.Since < m.mark() || !m.isNode(x.Node) {
		return nil
	}
	copied := api.Message{Kind: api.MsgCopy, From: m.node, To: x.Node, Attempt: x.Attempt, At: x.At, Since: x.Since, Epoch: x.Epoch, Mark: m.mark()}
	if all := m.store.Versions(x.At); x.Since == 0 {
		copied.Versions = recover.Upto(all, x.Epoch)
	} else {
		copied.Versions = recover.Changes(all, x.Since, x.Epoch)
	}
	return []api.Message{copied}
}

// tells tells whether it knows all of a segment as it was at an epoch.
func (m *Member) tells(at api.Segment, epoch uint64) bool {
	return !m.Wiped() && slices.Contains(m.segments(), at) && m.mark() <= epoch && epoch <= m.through()
}
