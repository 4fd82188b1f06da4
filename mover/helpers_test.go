package mover_test

import (
	"bytes"
	"cmp"
	"math"
	"slices"
	"strconv"
	"testing"

	"hayloft/api"
	"hayloft/disk"
	"hayloft/mover"
	"hayloft/rosfile"
	"hayloft/store"
	"hayloft/value"
)

// a, b and c are the segments of three; nowhere is one that is not here.
var (
	a       = api.Segment{Proj: 2, Seg: 1}
	b       = api.Segment{Proj: 0, Seg: 300}
	c       = api.Segment{Proj: -5, Seg: math.MinInt}
	nowhere = api.Segment{Proj: 1, Seg: 2}
)

// three are shapes of one, two and eight columns.
func three() []api.Shape {
	return []api.Shape{
		{At: a, Columns: 1, Sort: []int{0}},
		{At: b, Columns: 2, Sort: []int{1, 0}},
		{At: c, Columns: 8},
	}
}

func shapeOf(at api.Segment) api.Shape {
	l := three()
	return l[slices.IndexFunc(l, func(s api.Shape) bool { return s.At == at })]
}

func name(epoch uint64, number uint32) api.RowId { return api.RowId{Epoch: epoch, Number: number} }

// row has so many values, of all kinds.
func row(columns int, n int64) []api.Value {
	all := []api.Value{value.Int(n), value.Text(strconv.FormatInt(n%3, 10)), value.Null(), value.Bool(n%2 == 0)}
	var l []api.Value
	for i := range columns {
		l = append(l, all[i%len(all)])
	}
	return l
}

// ver is a version of a segment; its row is made of a number.
func ver(at api.Segment, epoch uint64, number uint32, n int64, deleted uint64) api.Version {
	return api.Version{Id: name(epoch, number), Row: row(shapeOf(at).Columns, n), Deleted: deleted}
}

func insert(at api.Segment, number uint32, n int64) api.Insert {
	return api.Insert{At: at, Ver: ver(at, 0, number, n, 0)}
}

func erase(at api.Segment, epoch uint64, number uint32) api.Erase {
	return api.Erase{At: at, Id: name(epoch, number)}
}

func held(at api.Segment, l ...api.Version) api.Held { return api.Held{At: at, Versions: l} }

// alike tells whether two lists have the same versions; a nil row and an empty one are the same.
func alike(x, y []api.Version) bool {
	return slices.EqualFunc(x, y, func(x, y api.Version) bool {
		return x.Id == y.Id && x.Deleted == y.Deleted && slices.Equal(x.Row, y.Row)
	})
}

// deep is a copy that shares no memory.
func deep(l []api.Version) []api.Version {
	out := slices.Clone(l)
	for i := range out {
		out[i].Row = slices.Clone(out[i].Row)
	}
	return out
}

// joined is Join, as the words of chapters 8 and 12 say it.
func joined(sort []int, l [][]api.Version, mark uint64) []api.Version {
	var out []api.Version
	for _, list := range l {
		for _, v := range list {
			if v.Deleted == 0 || mark < v.Deleted {
				out = append(out, v)
			}
		}
	}
	key := func(v api.Version) []api.Value {
		k := make([]api.Value, len(sort))
		for i, place := range sort {
			if place >= 0 && place < len(v.Row) {
				k[i] = v.Row[place]
			}
		}
		return k
	}
	slices.SortStableFunc(out, func(x, y api.Version) int {
		return cmp.Or(value.Rows(key(x), key(y)), cmp.Compare(x.Id.Epoch, y.Id.Epoch), cmp.Compare(x.Id.Number, y.Id.Number))
	})
	return deep(out)
}

// laid does by hand what the mover does with what was told.
func laid(s *store.Store, at api.Segment, kinds []int, told [][]api.Version, drop []int, loose bool) (int, api.Errno) {
	shape := shapeOf(at)
	var file []byte
	if left := joined(shape.Sort, told, s.Mark()); len(left) > 0 {
		var e api.Errno
		if file, e = rosfile.Write(shape.Columns, shape.Sort, kinds, left); e != api.OK {
			return 0, e
		}
	}
	if e := s.Replace(at, drop, loose, file); e != api.OK {
		return 0, e
	}
	return len(slices.Concat(told...)), api.OK
}

// isHere tells whether a segment is one of three.
func isHere(at api.Segment) bool { return at == a || at == b || at == c }

// move is one of the mover's two calls, and the same by hand.
type move struct {
	what string
	call func(s *store.Store, at api.Segment, kinds []int) (int, api.Errno)
	hand func(s *store.Store, at api.Segment, kinds []int) (int, api.Errno)
}

func out() move {
	return move{"P12.2: Out", mover.Out, func(s *store.Store, at api.Segment, kinds []int) (int, api.Errno) {
		if !isHere(at) {
			return 0, api.ErrArg
		}
		if len(s.Loose(at)) == 0 {
			return 0, api.OK
		}
		return laid(s, at, kinds, [][]api.Version{s.Loose(at)}, nil, true)
	}}
}

func merge() move {
	return move{"P12.3: Merge", mover.Merge, func(s *store.Store, at api.Segment, kinds []int) (int, api.Errno) {
		if !isHere(at) {
			return 0, api.ErrArg
		}
		var told [][]api.Version
		var drop []int
		for i := range s.Containers(at) {
			told = append(told, s.Container(at, i))
			drop = append(drop, i)
		}
		if len(drop) == 0 {
			return 0, api.OK
		}
		return laid(s, at, kinds, told, drop, false)
	}}
}

// image is a disk's files by their names.
type image map[string][]byte

func imageOf(d *disk.Disk) image {
	m := image{}
	for _, n := range d.Names() {
		m[n], _ = d.Read(n)
	}
	return m
}

func (m image) same(o image) bool {
	if len(m) != len(o) {
		return false
	}
	for n, x := range m {
		if y, ok := o[n]; !ok || !bytes.Equal(x, y) {
			return false
		}
	}
	return true
}

// pair is a store and its disk.
type pair struct {
	t *testing.T
	s *store.Store
	d *disk.Disk
}

// room is what the disks of most tests have.
const room = 1 << 22

func begin(t *testing.T) *pair { return beginWith(t, room) }

func beginWith(t *testing.T, room int) *pair {
	t.Helper()
	d := disk.New(room)
	if e := store.Format(d, three()); e != api.OK {
		t.Fatal("store.Format:", e)
	}
	return &pair{t, open(t, d), d}
}

func open(t *testing.T, d *disk.Disk) *store.Store {
	t.Helper()
	s, e := store.Open(d, three())
	if e != api.OK {
		t.Fatal("store.Open:", e)
	}
	return s
}

// clone goes its own way.
func (p *pair) clone() *pair {
	p.t.Helper()
	d := p.d.Clone()
	return &pair{p.t, open(p.t, d), d}
}

// ok wants that a call of a layer below is not refused.
func (p *pair) ok(what string, e api.Errno) {
	p.t.Helper()
	if e != api.OK {
		p.t.Fatal("the layers below:", what, e)
	}
}

// epoch does a part as the next epoch.
func (p *pair) epoch(inserts []api.Insert, erases ...api.Erase) {
	p.t.Helper()
	next := p.s.Through() + 1
	p.ok("Prepare", p.s.Prepare(next+1000, api.Part{Inserts: inserts, Erases: erases}))
	p.ok("Decide", p.s.Decide(next, next+1000))
}

func (p *pair) setMark(mark uint64) {
	p.t.Helper()
	p.ok("SetMark", p.s.SetMark(mark))
}

// install makes what the segments have just what l says, all of it loose.
func (p *pair) install(upto, mark uint64, l ...api.Held) {
	p.t.Helper()
	p.ok("Install", p.s.Install(upto, mark, true, l))
}

// pack lays what is loose into a container, without the mover.
func (p *pair) pack(at api.Segment) {
	p.t.Helper()
	shape := shapeOf(at)
	file, e := rosfile.Write(shape.Columns, shape.Sort, nil, p.s.Loose(at))
	p.ok("Write", e)
	p.ok("Replace", p.s.Replace(at, nil, true, file))
}

// seen is all that Scan tells of the epochs from one on.
func seen(s *store.Store, from uint64) [][]api.Version {
	var l [][]api.Version
	for _, at := range []api.Segment{a, b, c} {
		for epoch := from; epoch <= s.Through()+1; epoch++ {
			l = append(l, slices.Collect(s.Scan(at, epoch)))
		}
		l = append(l, slices.Collect(s.Scan(at, math.MaxUint64)))
	}
	return l
}

// told is all that a store tells of its versions.
func told(s *store.Store) [][]api.Version {
	var l [][]api.Version
	for _, at := range []api.Segment{a, b, c} {
		l = append(l, s.Versions(at), s.Loose(at))
		for i := range s.Containers(at) {
			l = append(l, s.Container(at, i))
		}
	}
	return l
}

func same(x, y [][]api.Version) bool { return slices.EqualFunc(x, y, alike) }

// wantLike wants that this store is as another one, its files too.
func (p *pair) wantLike(what string, o *pair) {
	p.t.Helper()
	if !same(told(p.s), told(o.s)) {
		p.t.Errorf("%s: the store tells %v, want %v", what, told(p.s), told(o.s))
	}
	if x, y := p.s, o.s; x.Through() != y.Through() || x.Mark() != y.Mark() || !slices.Equal(x.Prepared(), y.Prepared()) {
		p.t.Errorf("%s: through, mark, prepared are others", what)
	}
	if !imageOf(p.d).same(imageOf(o.d)) {
		p.t.Errorf("%s: the files are %v, want %v, or their bytes others", what, p.d.Names(), o.d.Names())
	}
}

// moves wants that the mover does what is done by hand, and answers so.
func (p *pair) moves(why string, m move, at api.Segment, kinds []int, many int, want api.Errno) {
	p.t.Helper()
	hand := p.clone()
	from := hand.d.Steps()
	if n, e := m.hand(hand.s, at, kinds); n != many || e != want {
		p.t.Fatalf("%s: %s: by hand: %d, %d, want %d, %d", m.what, why, n, e, many, want)
	}
	was, steps := seen(p.s, p.s.Mark()), p.d.Steps()
	n, e := m.call(p.s, at, kinds)
	if n != many || e != want {
		p.t.Errorf("%s: %s: %d, %d, want %d, %d", m.what, why, n, e, many, want)
	}
	if got, want := p.d.Steps()-steps, hand.d.Steps()-from; got != want {
		p.t.Errorf("%s: %s: %d steps of the disk, want %d", m.what, why, got, want)
	}
	p.wantLike(m.what+": "+why, hand)
	if !same(seen(p.s, p.s.Mark()), was) {
		p.t.Errorf("P12.4: %s: %s: is seen", m.what, why)
	}
}

// answers wants what a call answers.
func (p *pair) answers(why string, m move, at api.Segment, kinds []int, many int, want api.Errno) {
	p.t.Helper()
	if n, e := m.call(p.s, at, kinds); n != many || e != want {
		p.t.Errorf("%s: %s: %d, %d, want %d, %d", m.what, why, n, e, many, want)
	}
}

func wantVersions(t *testing.T, what string, got []api.Version, want ...api.Version) {
	t.Helper()
	if !alike(got, want) {
		t.Errorf("%s: %v, want %v", what, got, want)
	}
}
