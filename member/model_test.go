package member_test

import (
	"cmp"
	"fmt"
	"maps"
	"slices"
	"testing"

	"hayloft/api"
	"hayloft/disk"
	"hayloft/member"
)

// world is what a member must tell, and its store, as the chapters' words say it. Its disk has room, and is not dead.
type world struct {
	c       api.Catalog
	node    int
	columns map[api.Segment]int // of its segments
	kept    *kept               // nil: no store
	lost    bool
	attempt uint64
	since   uint64
	upto    uint64
	copies  []api.Message // what was gathered
	ended   bool
	well    bool
}

// kept is what a store has.
type kept struct {
	through  uint64
	mark     uint64
	prepared map[uint64]api.Part
	rows     map[api.Segment]map[api.RowId]api.Version
}

func newWorld(c api.Catalog, node int) *world {
	w := &world{c: c, node: node, columns: map[api.Segment]int{}, ended: true}
	for proj, p := range c.Projs {
		for seg := range c.Segments {
			for j := range c.K + 1 {
				if (seg+p.Shift+j)%c.Nodes == node {
					w.columns[api.Segment{Proj: proj, Seg: seg}] = len(p.Columns)
				}
			}
		}
	}
	return w
}

// segments are its segments, in order.
func (w *world) segments() []api.Segment {
	return slices.SortedFunc(maps.Keys(w.columns), func(a, b api.Segment) int {
		return cmp.Or(cmp.Compare(a.Proj, b.Proj), cmp.Compare(a.Seg, b.Seg))
	})
}

// format gives it a store with nothing.
func (w *world) format() *world {
	w.kept = &kept{prepared: map[uint64]api.Part{}, rows: map[api.Segment]map[api.RowId]api.Version{}}
	for at := range w.columns {
		w.kept.rows[at] = map[api.RowId]api.Version{}
	}
	return w
}

// anew is what it is when it is opened again.
func (w *world) anew() *world {
	x := *w
	x.lost, x.attempt, x.since, x.upto, x.copies, x.ended, x.well = false, 0, 0, 0, nil, true, false
	if w.kept != nil {
		k := *w.kept
		k.prepared = maps.Clone(k.prepared)
		k.rows = maps.Clone(k.rows)
		for at, l := range k.rows {
			k.rows[at] = maps.Clone(l)
		}
		x.kept = &k
	}
	return &x
}

// clone goes its own way.
func (w *world) clone() *world {
	x := w.anew()
	x.lost, x.attempt, x.since, x.upto, x.copies, x.ended, x.well = w.lost, w.attempt, w.since, w.upto, slices.Clone(w.copies), w.ended, w.well
	return x
}

func (w *world) through() uint64 {
	if w.kept == nil {
		return 0
	}
	return w.kept.through
}

func (w *world) mark() uint64 {
	if w.kept == nil {
		return 0
	}
	return w.kept.mark
}

func (w *world) wiped() bool { return w.kept == nil || w.lost }

func (w *world) prepared() []uint64 {
	if w.kept == nil {
		return nil
	}
	return slices.Sorted(maps.Keys(w.kept.prepared))
}

func (w *world) versions(at api.Segment) []api.Version {
	if w.kept == nil {
		return nil
	}
	l := slices.Collect(maps.Values(w.kept.rows[at]))
	slices.SortFunc(l, func(a, b api.Version) int {
		return cmp.Or(cmp.Compare(a.Id.Epoch, b.Id.Epoch), cmp.Compare(a.Id.Number, b.Id.Number))
	})
	return l
}

func (w *world) say(x api.Message) []api.Message {
	x.From, x.To = w.node, w.c.Nodes
	return []api.Message{x}
}

func (w *world) hello(ask uint64) []api.Message {
	return w.say(api.Message{Kind: api.MsgHello, Ask: ask, Epoch: w.through(), Wiped: w.wiped()})
}

func (w *world) told() []api.Message {
	return w.say(api.Message{Kind: api.MsgThrough, Epoch: w.through(), Mark: w.mark()})
}

func (w *world) take(x api.Message) []api.Message {
	isNode := func(n int) bool { return n >= 0 && n < w.c.Nodes }
	if x.To != w.node {
		return nil
	}
	if x.Kind == api.MsgCopy && isNode(x.From) {
		return w.copied(x)
	}
	if x.From != w.c.Nodes {
		return nil
	}
	_, here := w.columns[x.At]
	tells := !w.wiped() && here && x.Epoch <= w.through() && x.Epoch >= w.mark()
	switch x.Kind {
	case api.MsgProbe:
		return w.hello(x.Ask)
	case api.MsgPrepare:
		return w.prepare(x)
	case api.MsgDecide:
		return w.decide(x)
	case api.MsgMark:
		if w.wiped() {
			return nil
		}
		w.kept.mark = max(w.kept.mark, min(x.Mark, w.kept.through))
		return w.told()
	case api.MsgScan:
		return w.say(api.Message{Kind: api.MsgRows, Ask: x.Ask, At: x.At, No: !tells, Versions: w.visible(tells, x.At, x.Epoch)})
	case api.MsgFetch:
		if !tells || x.Since != 0 && x.Since < w.mark() || !isNode(x.Node) {
			return nil
		}
		return []api.Message{{Kind: api.MsgCopy, From: w.node, To: x.Node, Attempt: x.Attempt, At: x.At, Since: x.Since, Epoch: x.Epoch,
			Mark: w.mark(), Versions: w.changes(x.At, x.Since, x.Epoch)}}
	}
	return nil
}

// visible is what there is at an epoch, if it tells of that.
func (w *world) visible(tells bool, at api.Segment, epoch uint64) []api.Version {
	var l []api.Version
	for _, v := range w.versions(at) {
		if !tells || v.Id.Epoch > epoch || v.Deleted != 0 && v.Deleted <= epoch {
			continue
		}
		v.Deleted = 0
		l = append(l, v)
	}
	return l
}

// changes is what came, or was deleted, behind an epoch (0: all that came), up to another one.
func (w *world) changes(at api.Segment, since, upto uint64) []api.Version {
	var l []api.Version
	for _, v := range w.versions(at) {
		if v.Deleted > upto {
			v.Deleted = 0
		}
		if v.Id.Epoch <= upto && (since == 0 || v.Id.Epoch > since || v.Deleted > since) {
			l = append(l, v)
		}
	}
	return l
}

func (w *world) prepare(x api.Message) []api.Message {
	if w.wiped() {
		return w.hello(0)
	}
	if x.Base != w.kept.through {
		return w.told()
	}
	for txn := range w.kept.prepared {
		if txn > x.Txn {
			return nil
		}
	}
	_, known := w.kept.prepared[x.Txn]
	yes := known || w.mayDo(x.Part)
	for _, txn := range w.prepared() {
		if txn < x.Txn {
			delete(w.kept.prepared, txn)
		}
	}
	if yes && !known {
		w.kept.prepared[x.Txn] = x.Part
	}
	return w.say(api.Message{Kind: api.MsgVote, Txn: x.Txn, Yes: yes})
}

// mayDo tells whether the store would prepare a part.
func (w *world) mayDo(p api.Part) bool {
	for i, x := range p.Inserts {
		twice := slices.ContainsFunc(p.Inserts[:i], func(y api.Insert) bool { return y.At == x.At && y.Ver.Id == x.Ver.Id })
		columns, here := w.columns[x.At]
		if twice || !here || len(x.Ver.Row) != columns || x.Ver.Id.Epoch != 0 || x.Ver.Deleted != 0 {
			return false
		}
	}
	for i, x := range p.Erases {
		v, here := w.kept.rows[x.At][x.Id]
		if !here || v.Deleted != 0 || slices.Contains(p.Erases[:i], x) {
			return false
		}
	}
	return true
}

func (w *world) decide(x api.Message) []api.Message {
	if w.wiped() {
		return w.hello(0)
	}
	if w.kept.through == most || x.Epoch != w.kept.through+1 {
		return w.told()
	}
	p, known := w.kept.prepared[x.Txn]
	if !known {
		w.lost = true
		return w.hello(0)
	}
	delete(w.kept.prepared, x.Txn)
	w.kept.through++
	for _, i := range p.Inserts {
		v := i.Ver
		v.Id.Epoch = x.Epoch
		w.kept.rows[i.At][v.Id] = v
	}
	for _, gone := range p.Erases {
		v, here := w.kept.rows[gone.At][gone.Id]
		if here && v.Deleted == 0 {
			v.Deleted = x.Epoch
			w.kept.rows[gone.At][gone.Id] = v
		}
	}
	return w.told()
}

func (w *world) copied(x api.Message) []api.Message {
	if x.Attempt < w.attempt {
		return nil
	}
	if x.Attempt == w.attempt && w.ended {
		return w.joined()
	}
	if x.Attempt > w.attempt {
		w.attempt, w.since, w.upto, w.copies, w.ended, w.well = x.Attempt, x.Since, x.Epoch, nil, false, false
	}
	_, here := w.columns[x.At]
	twice := slices.ContainsFunc(w.copies, func(y api.Message) bool { return y.At == x.At })
	if x.Since != w.since || x.Epoch != w.upto || !here || twice {
		return nil
	}
	w.copies = append(w.copies, x)
	if len(w.copies) < len(w.columns) {
		return nil
	}
	w.ended = true
	if w.since != 0 && (w.kept == nil || w.since > w.kept.through) {
		return nil
	}
	if w.kept == nil {
		w.format()
	}
	if w.install() {
		w.well, w.lost = true, false
	}
	return w.joined()
}

func (w *world) joined() []api.Message {
	if !w.well {
		return nil
	}
	return w.say(api.Message{Kind: api.MsgJoined, Attempt: w.attempt, Epoch: w.upto})
}

// install lays what was gathered into the store; false, if that refuses it.
func (w *world) install() bool {
	mark := w.kept.mark
	for _, x := range w.copies {
		mark = max(mark, x.Mark)
		if x.Mark > w.upto || !w.mayHold(x) {
			return false
		}
	}
	if w.upto < w.kept.through {
		return false
	}
	w.kept.through, w.kept.mark = w.upto, mark
	for _, x := range w.copies {
		if w.since == 0 {
			clear(w.kept.rows[x.At])
		}
		for _, v := range x.Versions {
			if was, here := w.kept.rows[x.At][v.Id]; here {
				v.Row, v.Deleted = was.Row, cmp.Or(was.Deleted, v.Deleted)
			}
			w.kept.rows[x.At][v.Id] = v
		}
	}
	return true
}

func (w *world) mayHold(x api.Message) bool {
	for i, v := range x.Versions {
		twice := slices.ContainsFunc(x.Versions[:i], func(y api.Version) bool { return y.Id == v.Id })
		comes := v.Id.Epoch != 0 && v.Id.Epoch <= w.upto
		goes := v.Deleted == 0 || v.Deleted > v.Id.Epoch && v.Deleted <= w.upto
		if twice || !comes || !goes || len(v.Row) != w.columns[x.At] {
			return false
		}
	}
	return true
}

// unlike says in what a member tells something else.
func (w *world) unlike(m *member.Member) string {
	s := m.Store()
	switch {
	case (s == nil) != (w.kept == nil):
		return fmt.Sprint("a store: ", s != nil)
	case m.Wiped() != w.wiped():
		return fmt.Sprint("Wiped: ", m.Wiped())
	case s == nil:
		return ""
	case s.Through() != w.through():
		return fmt.Sprint("through: ", s.Through(), ", want ", w.through())
	case s.Mark() != w.mark():
		return fmt.Sprint("mark: ", s.Mark(), ", want ", w.mark())
	case !slices.Equal(s.Prepared(), w.prepared()):
		return fmt.Sprint("prepared: ", s.Prepared(), ", want ", w.prepared())
	}
	for at := range w.columns {
		if got, want := s.Versions(at), w.versions(at); !alikeVersions(got, want) {
			return fmt.Sprint("versions of ", at, ": ", got, ", want ", want)
		}
	}
	return ""
}

func (w *world) want(t *testing.T, what string, m *member.Member) {
	t.Helper()
	if s := w.unlike(m); s != "" {
		t.Errorf("P20.4: %s: %s", what, s)
	}
}

// pair is a member and the world that it must tell.
type pair struct {
	t *testing.T
	d *disk.Disk
	m *member.Member
	w *world
}

// newPair has a store, if formatted says so.
func newPair(t *testing.T, c api.Catalog, node int, store bool) *pair {
	t.Helper()
	p := &pair{t: t, d: disk.New(1 << 24), w: newWorld(c, node)}
	if store {
		p.d = formatted(t, c, node, 1<<24)
		p.w.format()
	}
	p.m = open(t, "a pair", c, p.d, node)
	return p
}

// take wants that the member says what the world says.
func (p *pair) take(x api.Message) []api.Message {
	p.t.Helper()
	said := p.m.Take(deep(x))
	wantSaid(p.t, fmt.Sprintf("P20.4: %+v", x), said, p.w.take(deep(x))...)
	p.w.want(p.t, fmt.Sprintf("%+v", x), p.m)
	return said
}

func (p *pair) anew() {
	p.t.Helper()
	p.m = open(p.t, "anew", p.w.c, p.d, p.w.node)
	p.w = p.w.anew()
	p.w.want(p.t, "opened anew", p.m)
}
