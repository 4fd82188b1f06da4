package store_test

import (
	"maps"
	"slices"
	"strconv"
	"testing"

	"hayloft/api"
	"hayloft/rosfile"
	"hayloft/store"
)

// world is a store as the chapter tells it, told as plainly as can be: what it has, and what files it has.
type world struct {
	shapes        []api.Shape
	generation    uint64
	next          uint64
	through, mark uint64
	segments      []part
	prepared      map[uint64]api.Part

	manifest []byte   // as it was published
	records  [][]byte // since then
}

// part is what a segment has.
type part struct {
	files  []written
	loose  []api.Version
	erased map[api.RowId]uint64
}

// written is a container.
type written struct {
	number   uint64
	bytes    []byte
	versions []api.Version // in the file's order, as the file has them
}

func newWorld(shapes []api.Shape) *world {
	w := &world{shapes: shapes, prepared: map[uint64]api.Part{}}
	for range shapes {
		w.segments = append(w.segments, part{erased: map[api.RowId]uint64{}})
	}
	w.manifest = w.told()
	return w
}

func (w *world) clone() *world {
	o := *w
	o.segments = slices.Clone(w.segments)
	for i := range o.segments {
		g := &o.segments[i]
		g.files = slices.Clone(g.files)
		g.loose = slices.Clone(g.loose)
		g.erased = maps.Clone(g.erased)
	}
	o.prepared = maps.Clone(w.prepared)
	o.records = slices.Clone(w.records)
	return &o
}

// place is that of a segment, or -1.
func (w *world) place(at api.Segment) int {
	return slices.IndexFunc(w.shapes, func(s api.Shape) bool { return s.At == at })
}

// container is what a container tells: with what was erased since.
func (g part) container(i int) []api.Version {
	l := slices.Clone(g.files[i].versions)
	for k, v := range l {
		if epoch, ok := g.erased[v.Id]; ok {
			l[k].Deleted = epoch
		}
	}
	return l
}

func (g part) versions() []api.Version {
	l := slices.Clone(g.loose)
	for i := range g.files {
		l = append(l, g.container(i)...)
	}
	return byNames(l)
}

// find is the version of that name.
func (g part) find(id api.RowId) (api.Version, bool) {
	for _, v := range g.versions() {
		if v.Id == id {
			return v, true
		}
	}
	return api.Version{}, false
}

// end deletes a row.
func (g *part) end(id api.RowId, epoch uint64) {
	for i := range g.loose {
		if g.loose[i].Id == id {
			g.loose[i].Deleted = epoch
			return
		}
	}
	g.erased[id] = epoch
}

func fitsShape(s api.Shape, l []api.Value) bool {
	if len(l) != s.Columns {
		return false
	}
	for _, v := range l {
		plain := api.Value{Kind: v.Kind}
		switch v.Kind {
		case api.KindNull:
		case api.KindBool:
			plain.Bool = v.Bool
		case api.KindInt:
			plain.Int = v.Int
		case api.KindText:
			plain.Text = v.Text
		default:
			return false
		}
		if v != plain || len(v.Text) > api.MaxText {
			return false
		}
	}
	return true
}

func (w *world) refuses(p api.Part) bool {
	for n, i := range p.Inserts {
		at := w.place(i.At)
		if at < 0 || !fitsShape(w.shapes[at], i.Ver.Row) || i.Ver.Id.Epoch != 0 || i.Ver.Deleted != 0 {
			return true
		}
		for _, o := range p.Inserts[:n] {
			if o.At == i.At && o.Ver.Id.Number == i.Ver.Id.Number {
				return true
			}
		}
	}
	for n, x := range p.Erases {
		at := w.place(x.At)
		if at < 0 || slices.Contains(p.Erases[:n], x) {
			return true
		}
		if v, ok := w.segments[at].find(x.Id); !ok || v.Deleted != 0 {
			return true
		}
	}
	return false
}

func (w *world) prepare(txn uint64, p api.Part) api.Errno {
	if _, ok := w.prepared[txn]; ok {
		return api.OK
	}
	if w.refuses(p) {
		return api.ErrStorePart
	}
	w.prepared[txn] = p
	w.records = append(w.records, preparedRecord(txn, partBytes(w.shapes, p)))
	return api.OK
}

func (w *world) decide(epoch, txn uint64) api.Errno {
	if epoch == 0 || epoch-1 != w.through {
		return api.ErrStoreEpoch
	}
	for _, i := range w.prepared[txn].Inserts {
		g := &w.segments[w.place(i.At)]
		v := i.Ver
		v.Id.Epoch = epoch
		g.loose = byNames(append(g.loose, v))
	}
	for _, x := range w.prepared[txn].Erases {
		g := &w.segments[w.place(x.At)]
		if v, ok := g.find(x.Id); ok && v.Deleted == 0 {
			g.end(x.Id, epoch)
		}
	}
	delete(w.prepared, txn)
	w.through = epoch
	w.records = append(w.records, decidedRecord(epoch, txn))
	return api.OK
}

func (w *world) forget(txn uint64) api.Errno {
	if _, ok := w.prepared[txn]; ok {
		delete(w.prepared, txn)
		w.records = append(w.records, forgottenRecord(txn))
	}
	return api.OK
}

func (w *world) setMark(mark uint64) api.Errno {
	if mark > w.through {
		return api.ErrStoreEpoch
	}
	if mark > w.mark {
		w.mark = mark
		w.records = append(w.records, markRecord(mark))
	}
	return api.OK
}

func (w *world) replace(at api.Segment, drop []int, loose bool, file []byte) api.Errno {
	place := w.place(at)
	if place < 0 {
		return api.ErrStorePart
	}
	g := &w.segments[place]
	var gone []api.Version
	for n, i := range drop {
		if i < 0 || i >= len(g.files) || slices.Contains(drop[:n], i) {
			return api.ErrStorePart
		}
		gone = append(gone, g.container(i)...)
	}
	if loose {
		gone = append(gone, g.loose...)
	}
	var come []api.Version
	if len(file) > 0 {
		f, e := rosfile.Read(file)
		if e != api.OK || f.Len() == 0 || f.Columns() != w.shapes[place].Columns || !slices.Equal(f.Sort(), w.shapes[place].Sort) {
			return api.ErrStorePart
		}
		come = slices.Collect(f.All())
	}
	for _, v := range come {
		if !slices.ContainsFunc(gone, func(x api.Version) bool { return alikeOne(x, v) }) {
			return api.ErrStorePart
		}
	}
	for _, v := range gone {
		stays := slices.ContainsFunc(come, func(x api.Version) bool { return x.Id == v.Id })
		if !stays && (v.Deleted == 0 || v.Deleted > w.mark) {
			return api.ErrStorePart
		}
	}
	var left []written
	for i, f := range g.files {
		if !slices.Contains(drop, i) {
			left = append(left, f)
			continue
		}
		for _, v := range f.versions {
			delete(g.erased, v.Id)
		}
	}
	g.files = left
	if loose {
		g.loose = nil
	}
	if len(file) > 0 {
		g.files = append(g.files, written{w.next, slices.Clone(file), come})
		w.next++
	}
	w.publish()
	return api.OK
}

func (w *world) install(upto, mark uint64, whole bool, l []api.Held) api.Errno {
	if upto < w.through || mark > upto {
		return api.ErrStoreEpoch
	}
	for n, h := range l {
		at := w.place(h.At)
		if at < 0 || slices.ContainsFunc(l[:n], func(o api.Held) bool { return o.At == h.At }) {
			return api.ErrStorePart
		}
		for k, v := range h.Versions {
			came, gone := v.Id.Epoch, v.Deleted
			if !fitsShape(w.shapes[at], v.Row) || came == 0 || came > upto || gone != 0 && gone <= came || gone > upto {
				return api.ErrStorePart
			}
			if slices.ContainsFunc(h.Versions[:k], func(o api.Version) bool { return o.Id == v.Id }) {
				return api.ErrStorePart
			}
		}
	}
	w.through, w.mark = upto, max(w.mark, mark)
	for i := range w.segments {
		if whole {
			w.segments[i] = part{erased: map[api.RowId]uint64{}}
		}
	}
	for _, h := range l {
		g := &w.segments[w.place(h.At)]
		for _, v := range deep(h.Versions) {
			was, ok := g.find(v.Id)
			if !ok {
				g.loose = byNames(append(g.loose, v))
			} else if was.Deleted == 0 && v.Deleted != 0 {
				g.end(v.Id, v.Deleted)
			}
		}
	}
	w.publish()
	return api.OK
}

func (w *world) publish() {
	w.generation++
	w.records = nil
	w.manifest = w.told()
}

// told is the manifest of what there is.
func (w *world) told() []byte {
	body := slices.Concat(long(w.generation), long(w.next), long(w.through), long(w.mark))
	for _, g := range w.segments {
		body = append(body, listed(g.files, func(f written) []byte { return long(f.number) })...)
		body = append(body, listed(g.loose, versionBytes)...)
		ids := slices.SortedFunc(maps.Keys(g.erased), compareNames)
		body = append(body, listed(ids, func(id api.RowId) []byte { return slices.Concat(nameBytes(id), long(g.erased[id])) })...)
	}
	txns := slices.Sorted(maps.Keys(w.prepared))
	body = append(body, listed(txns, func(txn uint64) []byte {
		return slices.Concat(long(txn), partBytes(w.shapes, w.prepared[txn]))
	})...)
	return framed(body)
}

// image is all files that there are.
func (w *world) image() image {
	m := image{"manifest": w.manifest, "redo." + strconv.FormatUint(w.generation, 10): logBytes(w.records...)}
	for _, g := range w.segments {
		for _, f := range g.files {
			m["c"+strconv.FormatUint(f.number, 10)] = f.bytes
		}
	}
	return m
}

// want wants that a store tells just what the world has, by all of its calls.
func (w *world) want(t *testing.T, what string, s *store.Store) {
	t.Helper()
	if !w.is(s) {
		t.Errorf("%s: the store tells otherwise: through %d, mark %d, prepared %v, want %d, %d, %v", what, s.Through(), s.Mark(), s.Prepared(), w.through, w.mark, slices.Sorted(maps.Keys(w.prepared)))
	}
	for i, g := range w.segments {
		at := w.shapes[i].At
		wantVersions(t, "P11.7: "+what+": Versions", s.Versions(at), g.versions()...)
		wantVersions(t, "P11.7: "+what+": Loose", s.Loose(at), g.loose...)
		if s.Containers(at) != len(g.files) {
			t.Errorf("P11.7: %s: %d containers, want %d", what, s.Containers(at), len(g.files))
		}
		for k := range g.files {
			wantVersions(t, "P11.7: "+what+": Container", s.Container(at, k), g.container(k)...)
		}
		for epoch := range uint64(8) {
			wantVersions(t, "P11.7: "+what+": Scan", slices.Collect(s.Scan(at, epoch)), visible(g.versions(), epoch)...)
		}
	}
}

// is tells whether a store tells just what the world has.
func (w *world) is(s *store.Store) bool {
	if s.Through() != w.through || s.Mark() != w.mark || !slices.Equal(s.Prepared(), slices.Sorted(maps.Keys(w.prepared))) {
		return false
	}
	for i, g := range w.segments {
		at := w.shapes[i].At
		if !alike(s.Versions(at), g.versions()) || !alike(s.Loose(at), g.loose) || s.Containers(at) != len(g.files) {
			return false
		}
		for k := range g.files {
			if !alike(s.Container(at, k), g.container(k)) {
				return false
			}
		}
		for _, epoch := range []uint64{0, 1, w.through / 2, w.through - 1, w.through, w.through + 1, most} {
			if !alike(slices.Collect(s.Scan(at, epoch)), visible(g.versions(), epoch)) {
				return false
			}
		}
	}
	return true
}
