package store

import (
	"math"
	"slices"

	"hayloft/api"
	"hayloft/codec"
	"hayloft/rows"
)

// mayDo tells whether a part can be done here, whatever rows there are.
func (s *Store) mayDo(p api.Part) bool {
	return s.mayInsert(p.Inserts) && s.mayErase(p.Erases)
}

func (s *Store) mayInsert(l []api.Insert) bool {
	names := map[api.Erase]struct{}{}
	for _, i := range l {
		g := s.segment(i.At)
		if g == nil || i.Ver.Id.Epoch != 0 || i.Ver.Deleted != 0 || !fits(g.shape, i.Ver.Row) {
			return false
		}
		names[api.Erase{At: i.At, Id: i.Ver.Id}] = struct{}{}
	}
	return len(names) == len(l) // else two have one name
}

func (s *Store) mayErase(l []api.Erase) bool {
	names := map[api.Erase]struct{}{}
	for _, x := range l {
		if s.segment(x.At) == nil {
			return false
		}
		names[x] = struct{}{}
	}
	return len(names) == len(l)
}

// hasRows tells whether the rows that a part deletes are there, and not deleted.
func (s *Store) hasRows(p api.Part) bool {
	for _, x := range p.Erases {
		if end, there := s.segment(x.At).ended(x.Id); !there || end != 0 {
			return false
		}
	}
	return true
}

func copyPart(p api.Part) api.Part {
	p.Inserts = slices.Clone(p.Inserts)
	for i := range p.Inserts {
		row := &p.Inserts[i].Ver.Row
		*row = slices.Clone(*row)
	}
	p.Erases = slices.Clone(p.Erases)
	return p
}

func (s *Store) putPart(w *codec.Writer, p api.Part) {
	codec.Put(w, p.Inserts, func(w *codec.Writer, i api.Insert) {
		w.Var(uint64(s.places[i.At]))
		w.Word(i.Ver.Id.Number)
		putRow(w, i.Ver.Row)
	})
	codec.Put(w, p.Erases, func(w *codec.Writer, x api.Erase) {
		w.Var(uint64(s.places[x.At]))
		putName(w, x.Id)
	})
}

func (s *Store) takePart(r *codec.Reader) api.Part {
	return api.Part{
		Inserts: codec.List(r, api.MaxFrame, func(r *codec.Reader) api.Insert {
			at := s.takeSegment(r)
			number := r.Word()
			return api.Insert{At: at, Ver: api.Version{Id: api.RowId{Number: number}, Row: takeRow(r)}}
		}),
		Erases: codec.List(r, api.MaxFrame, func(r *codec.Reader) api.Erase {
			at := s.takeSegment(r)
			return api.Erase{At: at, Id: takeName(r)}
		}),
	}
}

// takeSegment reads the place of a shape.
func (s *Store) takeSegment(r *codec.Reader) api.Segment {
	place := r.Var(math.MaxUint64)
	if place >= uint64(len(s.shapes)) {
		r.Fail(api.ErrStoreForm)
		return api.Segment{}
	}
	return s.shapes[place].At
}

func putName(w *codec.Writer, id api.RowId) {
	w.Long(id.Epoch)
	w.Word(id.Number)
}

func takeName(r *codec.Reader) api.RowId {
	epoch := r.Long()
	return api.RowId{Epoch: epoch, Number: r.Word()}
}

// putRow writes a row that fits.
func putRow(w *codec.Writer, row []api.Value) {
	b, _ := rows.Encode(row)
	w.Text(b)
}

func takeRow(r *codec.Reader) []api.Value {
	row, e := rows.Decode(r.Text(api.MaxFrame))
	r.Fail(e)
	return row
}

func putVersion(w *codec.Writer, v api.Version) {
	putName(w, v.Id)
	putRow(w, v.Row)
	w.Long(v.Deleted)
}

func takeVersion(r *codec.Reader) api.Version {
	id := takeName(r)
	row := takeRow(r)
	return api.Version{Id: id, Row: row, Deleted: r.Long()}
}
