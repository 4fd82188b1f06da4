package store

import (
	"slices"

	"hayloft/api"
	"hayloft/codec"
	"hayloft/disk"
	"hayloft/redo"
	"hayloft/wos"
)

// numbersEnd is above all generations and containers' numbers.
const numbersEnd = 1 << 63

func Open(d *disk.Disk, shapes []api.Shape) (*Store, api.Errno) {
	if !mayBe(shapes) {
		return nil, api.ErrArg
	}
	if d.Dead() {
		return nil, api.ErrDiskDead
	}
	manifest, ok := d.Read(manifestName)
	if !ok {
		return nil, api.ErrStoreWiped
	}
	s := newStore(d, shapes)
	if !s.load(manifest) {
		return nil, api.ErrStoreForm
	}
	if e := s.tidy(); e != api.OK {
		return nil, e
	}
	if e := s.replay(); e != api.OK {
		return nil, e
	}
	return s, api.OK
}

// newStore is one with nothing, and without a log.
func newStore(d *disk.Disk, shapes []api.Shape) *Store {
	s := &Store{disk: d, shapes: copyShapes(shapes), places: placesOf(shapes)}
	s.prepared = map[uint64]api.Part{}
	for _, shape := range s.shapes {
		s.segments = append(s.segments, newSegment(shape))
	}
	return s
}

// load takes what a manifest tells; false, if it is none, or something in it can't be.
func (s *Store) load(manifest []byte) bool {
	body, size, e := codec.Unframe(manifest)
	if e != api.OK || size < len(manifest) {
		return false
	}
	r := codec.Read(body)
	s.generation = r.Long()
	s.next = r.Long()
	s.through = r.Long()
	s.mark = r.Long()
	var listings []listing
	for range s.shapes {
		listings = append(listings, takeListing(r))
	}
	waiting := codec.List(r, api.MaxFrame, s.takePending)
	if r.End() != api.OK || s.generation >= numbersEnd || s.next >= numbersEnd || s.mark > s.through {
		return false
	}
	for i, l := range listings {
		if !s.fill(s.segments[i], l) {
			return false
		}
	}
	return s.mayHaveFiles() && s.await(waiting)
}

// fill lays into a segment what the manifest says of it.
func (s *Store) fill(g *segment, l listing) bool {
	for _, number := range l.numbers {
		if !s.fillFile(g, number) {
			return false
		}
	}
	return s.fillLoose(g, l.loose) && s.fillErased(g, l.erased)
}

// fillFile reads a container, and lays it behind the others.
func (s *Store) fillFile(g *segment, number uint64) bool {
	b, _ := s.disk.Read(fileName(number)) // where there is none, there are no bytes of a container either
	c, ok := readContainer(number, g.shape, b)
	if !ok {
		return false
	}
	for v := range c.file.All() {
		if _, twice := g.ended(v.Id); twice || !mayLive(v, s.through) {
			return false
		}
	}
	g.containers = append(g.containers, c)
	return true
}

func (s *Store) fillLoose(g *segment, l []api.Version) bool {
	for _, v := range l {
		if _, twice := g.ended(v.Id); twice || !mayLive(v, s.through) || !fits(g.shape, v.Row) {
			return false
		}
		g.Add(v)
	}
	return rises(l, func(a, b api.Version) bool { return wos.Less(a.Id, b.Id) })
}

func (s *Store) fillErased(g *segment, l []erasure) bool {
	for _, x := range l {
		c, ok := g.holder(x.id)
		if !ok || c.deleted[x.id] != 0 || x.epoch <= x.id.Epoch || x.epoch > s.through {
			return false
		}
		g.erased[x.id] = x.epoch
	}
	return rises(l, func(a, b erasure) bool { return wos.Less(a.id, b.id) })
}

// mayHaveFiles tells whether the containers' numbers can be those of this state.
func (s *Store) mayHaveFiles() bool {
	l := slices.Sorted(s.numbers())
	return rises(l, func(a, b uint64) bool { return a < b }) && (len(l) == 0 || l[len(l)-1] < s.next)
}

// await takes the transactions that are prepared.
func (s *Store) await(l []pending) bool {
	for _, x := range l {
		if !s.mayDo(x.part) {
			return false
		}
		s.prepared[x.txn] = x.part
	}
	return rises(l, func(a, b pending) bool { return a.txn < b.txn })
}

// rises tells whether each one of l is less than the next.
func rises[T any](l []T, less func(a, b T) bool) bool {
	for i := 1; i < len(l); i++ {
		if !less(l[i-1], l[i]) {
			return false
		}
	}
	return true
}

// tidy removes what a crash has left that is none of the store's.
func (s *Store) tidy() api.Errno {
	keep := []string{manifestName, logName(s.generation)}
	for number := range s.numbers() {
		keep = append(keep, fileName(number))
	}
	for _, name := range s.disk.Names() {
		if slices.Contains(keep, name) {
			continue
		}
		if e := s.disk.Remove(name); e != api.OK {
			return e
		}
	}
	return api.OK
}

// replay opens the log, and does what its records say.
func (s *Store) replay() api.Errno {
	log, e := redo.Open(s.disk, logName(s.generation))
	if e == api.ErrDiskNone {
		return api.ErrStoreForm
	}
	if e != api.OK {
		return e
	}
	s.log = log
	for _, record := range log.All() {
		if !s.again(record) {
			return api.ErrStoreForm
		}
	}
	return api.OK
}

// again does what a record says; false, if it is none, or could not have been written here.
func (s *Store) again(record []byte) bool {
	c, ok := s.takeRecord(record)
	if !ok {
		return false
	}
	needed, e := s.judge(c)
	if e != api.OK || !needed {
		return false
	}
	s.do(c)
	return true
}
