package member

import (
	"slices"

	"hayloft/api"
	"hayloft/recover"
	"hayloft/store"
)

// rejoin is an attempt to get from others all that came behind one epoch, up to another one.
type rejoin struct {
	attempt uint64
	since   uint64
	upto    uint64
	mark    uint64     // the greatest one of the givers
	held    []api.Held // what was gathered, in the order in which it came
	ended   bool
	well    bool // it was ended, and all that was gathered is in the store
}

// gather takes a copy of a segment; the last one that was missing ends the attempt. Whoever sends one once more is told again how that went.
func (m *Member) gather(x api.Message) []api.Message {
	r := &m.rejoin
	if x.Attempt < r.attempt {
		return nil
	}
	if x.Attempt > r.attempt {
		*r = rejoin{attempt: x.Attempt, since: x.Since, upto: x.Epoch}
	}
	if !r.ended && m.misses(x) {
		r.held = append(r.held, api.Held{At: x.At, Versions: copyVersions(x.Versions)})
		r.mark = max(r.mark, x.Mark)
		m.endIfWhole()
	}
	if !r.well {
		return nil
	}
	return m.say(api.Message{Kind: api.MsgJoined, Attempt: r.attempt, Epoch: r.upto})
}

// misses tells whether a copy is one for which the attempt waits.
func (m *Member) misses(x api.Message) bool {
	r := m.rejoin
	return x.Since == r.since && x.Epoch == r.upto && slices.Contains(recover.Missing(m.segments(), r.held), x.At)
}

func (m *Member) endIfWhole() {
	r := &m.rejoin
	if len(recover.Missing(m.segments(), r.held)) > 0 {
		return
	}
	r.ended, r.well = true, m.install()
	r.held = nil
}

// install lays what was gathered into the store; where there is none, into a new one.
func (m *Member) install() bool {
	r := m.rejoin
	if r.since > m.through() { // what came in between is missing
		return false
	}
	if m.store == nil && !m.format() {
		return false
	}
	if m.store.Install(r.upto, r.mark, r.since == 0, r.held) != api.OK {
		return false
	}
	m.lost = false
	return true
}

// format makes its disk that of a store with nothing.
func (m *Member) format() bool {
	if store.Format(m.disk, m.shapes) != api.OK {
		return false
	}
	s, e := store.Open(m.disk, m.shapes)
	m.store = s
	return e == api.OK
}

func copyVersions(l []api.Version) []api.Version {
	l = slices.Clone(l)
	for i := range l {
		l[i].Row = slices.Clone(l[i].Row)
	}
	return l
}
