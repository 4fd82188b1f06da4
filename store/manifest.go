package store

import (
	"iter"
	"maps"
	"slices"
	"strconv"

	"hayloft/api"
	"hayloft/codec"
)

const (
	manifestName = "manifest"
	newName      = "manifest.new" // of a manifest that is not laid yet
	logPrefix    = "redo."
	filePrefix   = "c"
)

// logName is the file of a generation's log, fileName that of a container.
func logName(generation uint64) string { return logPrefix + strconv.FormatUint(generation, 10) }

func fileName(number uint64) string { return filePrefix + strconv.FormatUint(number, 10) }

// numbers gives the numbers of all containers, in their order.
func (st *state) numbers() iter.Seq[uint64] {
	return func(yield func(uint64) bool) {
		for _, g := range st.segments {
			for _, c := range g.containers {
				if !yield(c.number) {
					return
				}
			}
		}
	}
}

// manifest is the file that tells a state.
func (s *Store) manifest(st state) ([]byte, api.Errno) {
	w := codec.New()
	w.Long(st.generation)
	w.Long(st.next)
	w.Long(st.through)
	w.Long(st.mark)
	for _, g := range st.segments {
		g.put(w)
	}
	codec.Put(w, slices.Sorted(maps.Keys(st.prepared)), func(w *codec.Writer, txn uint64) {
		w.Long(txn)
		s.putPart(w, st.prepared[txn])
	})
	b, e := codec.Frame(w.Bytes())
	if e != api.OK {
		return nil, api.ErrRedoLong
	}
	return b, api.OK
}

func (g *segment) put(w *codec.Writer) {
	codec.Put(w, g.containers, func(w *codec.Writer, c container) { w.Long(c.number) })
	codec.Put(w, slices.Collect(g.All()), putVersion)
	var l []erasure
	for id, epoch := range g.erased {
		l = append(l, erasure{id, epoch})
	}
	slices.SortFunc(l, func(a, b erasure) int { return byName(a.id, b.id) })
	codec.Put(w, l, func(w *codec.Writer, x erasure) {
		putName(w, x.id)
		w.Long(x.epoch)
	})
}

// listing is what a manifest says of a segment.
type listing struct {
	numbers []uint64
	loose   []api.Version
	erased  []erasure
}

// erasure says at which epoch a row of a container was deleted.
type erasure struct {
	id    api.RowId
	epoch uint64
}

// pending is a transaction that is prepared.
type pending struct {
	txn  uint64
	part api.Part
}

func takeListing(r *codec.Reader) listing {
	return listing{
		numbers: codec.List(r, api.MaxFrame, (*codec.Reader).Long),
		loose:   codec.List(r, api.MaxFrame, takeVersion),
		erased: codec.List(r, api.MaxFrame, func(r *codec.Reader) erasure {
			id := takeName(r)
			return erasure{id, r.Long()}
		}),
	}
}

func (s *Store) takePending(r *codec.Reader) pending {
	txn := r.Long()
	return pending{txn, s.takePart(r)}
}
