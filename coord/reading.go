package coord

import (
	"slices"

	"hayloft/api"
	"hayloft/catalog"
	"hayloft/plan"
)

// reading is what is read of some tables, at an epoch, segment by segment.
type reading struct {
	number   uint64
	epoch    uint64
	plans    map[int]plan.Plan // by which projections each table is read
	segments []segment
}

// segment is one that is read.
type segment struct {
	at       api.Segment
	answered bool
	versions []api.Version
}

// read begins to read tables.
func (c *Coord) read(tables []int, epoch uint64, pick int) *reading {
	r := &reading{number: c.fresh(), epoch: epoch, plans: map[int]plan.Plan{}}
	for _, table := range tables {
		r.plans[table], _ = plan.Choose(c.catalog, table, pick) // of a catalog that Check took each table has a way
		for _, at := range plan.Needs(c.catalog, r.plans[table]) {
			if r.segment(at) == nil {
				r.segments = append(r.segments, segment{at: at})
			}
		}
	}
	return r
}

// segment is the one of that name, nil if it is not read.
func (r *reading) segment(at api.Segment) *segment {
	i := slices.IndexFunc(r.segments, func(s segment) bool { return s.at == at })
	if i < 0 {
		return nil
	}
	return &r.segments[i]
}

// take takes what a member tells of a segment: the first one that does so is believed.
func (r *reading) take(x api.Message) {
	if s := r.segment(x.At); s != nil && !s.answered {
		s.answered, s.versions = true, each(x.Versions, copyVersion)
	}
}

// whole tells whether there is an answer of all.
func (r *reading) whole() bool {
	return !slices.ContainsFunc(r.segments, func(s segment) bool { return !s.answered })
}

// scan asks the segments that have no answer yet of all members that have them.
func (c *Coord) scan(r *reading) []api.Message {
	var l []api.Message
	for _, s := range r.segments {
		if s.answered {
			continue
		}
		for _, n := range c.holders(s.at) {
			l = append(l, c.say(n, api.Message{Kind: api.MsgScan, Ask: r.number, Epoch: r.epoch, At: s.at}))
		}
	}
	return l
}

// holders are the members that have a copy of a segment.
func (c *Coord) holders(at api.Segment) []int {
	members := c.Members()
	return slices.DeleteFunc(catalog.Nodes(c.catalog, at), func(n int) bool { return !members[n] })
}

// full is a table as it was read: its rows, with their names.
func (c *Coord) full(r *reading, table int) []api.Version {
	p := r.plans[table]
	var l [][]api.Version
	for _, at := range plan.Needs(c.catalog, p) {
		l = append(l, r.segment(at).versions)
	}
	return plan.Full(c.catalog, p, l, r.epoch)
}
