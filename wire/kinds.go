package wire

import "hayloft/api"

// layout says what stands in a message of a kind, behind its head: body writes it, or reads it.
type layout struct {
	kind int
	body func(p *pass, m *api.Message)
}

// layouts has one of each kind of message.
func layouts() []layout {
	return []layout{
		{api.MsgPrepare, func(p *pass, m *api.Message) {
			p.longs(&m.Txn, &m.Base)
			p.part(&m.Part)
		}},
		{api.MsgVote, func(p *pass, m *api.Message) {
			p.longs(&m.Txn)
			p.truth(&m.Yes)
		}},
		{api.MsgDecide, func(p *pass, m *api.Message) { p.longs(&m.Epoch, &m.Txn) }},
		{api.MsgThrough, func(p *pass, m *api.Message) { p.longs(&m.Epoch, &m.Mark) }},
		{api.MsgScan, func(p *pass, m *api.Message) {
			p.longs(&m.Ask, &m.Epoch)
			p.segment(&m.At)
		}},
		{api.MsgRows, func(p *pass, m *api.Message) {
			p.longs(&m.Ask)
			p.segment(&m.At)
			p.truth(&m.No)
			list(p, &m.Versions, (*pass).version)
		}},
		{api.MsgHello, func(p *pass, m *api.Message) {
			p.longs(&m.Ask, &m.Epoch)
			p.truth(&m.Wiped)
		}},
		{api.MsgFetch, func(p *pass, m *api.Message) {
			p.node(&m.Node)
			p.longs(&m.Attempt)
			p.segment(&m.At)
			p.longs(&m.Since, &m.Epoch)
		}},
		{api.MsgCopy, func(p *pass, m *api.Message) {
			p.longs(&m.Attempt)
			p.segment(&m.At)
			p.longs(&m.Since, &m.Epoch, &m.Mark)
			list(p, &m.Versions, (*pass).version)
		}},
		{api.MsgJoined, func(p *pass, m *api.Message) { p.longs(&m.Attempt, &m.Epoch) }},
		{api.MsgMark, func(p *pass, m *api.Message) { p.longs(&m.Mark) }},
		{api.MsgProbe, func(p *pass, m *api.Message) { p.longs(&m.Ask) }},
	}
}

// message goes over a whole message: its head, and what its kind names.
func message(p *pass, m *api.Message) {
	kind := p.kind(&m.Kind)
	p.node(&m.From)
	p.node(&m.To)
	for _, l := range layouts() {
		if l.kind == kind {
			l.body(p, m)
			return
		}
	}
	p.refuse()
}
