package store

import (
	"hayloft/api"
	"hayloft/codec"
)

// The kinds of changes: the first bytes of the log's records.
const (
	prepares = 1
	decides  = 2
	forgets  = 3
	marks    = 4
)

// change is what one record says.
type change struct {
	kind  byte
	txn   uint64
	epoch uint64   // decides: the epoch; marks: the mark
	part  api.Part // prepares
}

// carryOut does a change, and makes it last, unless it is refused, or there is nothing to do.
func (s *Store) carryOut(c change) api.Errno {
	needed, e := s.judge(c)
	if e != api.OK || !needed {
		return e
	}
	if e := s.log.Append(s.record(c)); e != api.OK {
		return e
	}
	s.do(c)
	return api.OK
}

// judge tells with which error a change is refused; if it is not, whether there is anything to do.
func (s *Store) judge(c change) (bool, api.Errno) {
	_, known := s.prepared[c.txn]
	switch c.kind {
	case prepares:
		if !known && !(s.mayDo(c.part) && s.hasRows(c.part)) {
			return false, api.ErrStorePart
		}
		return !known, api.OK
	case decides:
		if c.epoch != s.through+1 || c.epoch == 0 { // behind the last epoch of all there is none
			return false, api.ErrStoreEpoch
		}
		return true, api.OK
	case forgets:
		return known, api.OK
	}
	if c.epoch > s.through {
		return false, api.ErrStoreEpoch
	}
	return c.epoch > s.mark, api.OK
}

// do does a change that is not refused, in memory.
func (s *Store) do(c change) {
	switch c.kind {
	case prepares:
		s.prepared[c.txn] = copyPart(c.part)
	case decides:
		s.apply(c.epoch, s.prepared[c.txn])
		delete(s.prepared, c.txn)
		s.through = c.epoch
	case forgets:
		delete(s.prepared, c.txn)
	case marks:
		s.mark = c.epoch
	}
}

// apply does a part, as an epoch. A row that another one has deleted since the part was prepared, or that is gone, is passed over.
func (s *Store) apply(epoch uint64, p api.Part) {
	for _, i := range p.Inserts {
		v := i.Ver
		v.Id.Epoch = epoch
		s.segment(i.At).Add(v)
	}
	for _, x := range p.Erases {
		g := s.segment(x.At)
		if end, there := g.ended(x.Id); there && end == 0 {
			g.erase(x.Id, epoch)
		}
	}
}

// record is a change as it stands in the log.
func (s *Store) record(c change) []byte {
	w := codec.New()
	w.Byte(c.kind)
	if c.kind == decides || c.kind == marks {
		w.Long(c.epoch)
	}
	if c.kind != marks {
		w.Long(c.txn)
	}
	if c.kind == prepares {
		s.putPart(w, c.part)
	}
	return w.Bytes()
}

// takeRecord reads what record has written; false, if b is none.
func (s *Store) takeRecord(b []byte) (change, bool) {
	r := codec.Read(b)
	c := change{kind: r.Byte()}
	if c.kind < prepares || c.kind > marks {
		return change{}, false
	}
	if c.kind == decides || c.kind == marks {
		c.epoch = r.Long()
	}
	if c.kind != marks {
		c.txn = r.Long()
	}
	if c.kind == prepares {
		c.part = s.takePart(r)
	}
	return c, r.End() == api.OK
}
