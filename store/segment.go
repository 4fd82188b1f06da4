package store

import (
	"iter"
	"maps"
	"slices"

	"hayloft/api"
	"hayloft/rosfile"
	"hayloft/wos"
)

// segment has versions, each name once: what is loose, which it embeds, and what containers have.
type segment struct {
	*wos.Wos
	shape      api.Shape
	containers []container
	erased     map[api.RowId]uint64 // the epochs at which rows of containers were deleted since their files were written
}

// container is one that was read. It is never changed, so that states share it.
type container struct {
	number  uint64
	file    *rosfile.File
	deleted map[api.RowId]uint64 // the epochs at which rows were deleted, as the file says it
}

func newSegment(shape api.Shape) *segment {
	return &segment{Wos: wos.New(), shape: shape, erased: map[api.RowId]uint64{}}
}

// clone goes its own way.
func (g *segment) clone() *segment {
	return &segment{
		Wos:        g.Wos.Clone(),
		shape:      g.shape,
		containers: slices.Clone(g.containers),
		erased:     maps.Clone(g.erased),
	}
}

// readContainer reads the container of that number and shape; false, if b is none, or has no version.
func readContainer(number uint64, shape api.Shape, b []byte) (container, bool) {
	f, e := rosfile.Read(b)
	if e != api.OK || f.Columns() != shape.Columns || !slices.Equal(f.Sort(), shape.Sort) || f.Len() == 0 {
		return container{}, false
	}
	c := container{number: number, file: f, deleted: map[api.RowId]uint64{}}
	for v := range f.All() {
		if v.Deleted != 0 {
			c.deleted[v.Id] = v.Deleted
		}
	}
	return c, true
}

// all gives all versions, in no order that is said.
func (g *segment) all() iter.Seq[api.Version] {
	return func(yield func(api.Version) bool) {
		for _, c := range g.containers {
			for v := range g.told(c) {
				if !yield(v) {
					return
				}
			}
		}
		for v := range g.All() {
			if !yield(v) {
				return
			}
		}
	}
}

// told gives a container's versions, in its order, with what was erased since.
func (g *segment) told(c container) iter.Seq[api.Version] {
	return func(yield func(api.Version) bool) {
		for v := range c.file.All() {
			if v.Deleted == 0 {
				v.Deleted = g.erased[v.Id]
			}
			if !yield(v) {
				return
			}
		}
	}
}

// ended tells at which epoch the row of that name was deleted (0: it was not), and whether there is one.
func (g *segment) ended(id api.RowId) (uint64, bool) {
	if v, ok := g.Get(id); ok {
		return v.Deleted, true
	}
	c, ok := g.holder(id)
	if !ok {
		return 0, false
	}
	return max(c.deleted[id], g.erased[id]), true
}

// holder is the container that has the row of that name.
func (g *segment) holder(id api.RowId) (container, bool) {
	for _, c := range g.containers {
		if _, ok := c.file.Find(id); ok {
			return c, true
		}
	}
	return container{}, false
}

// erase says of a row that is there, and not deleted, at which epoch it was.
func (g *segment) erase(id api.RowId, epoch uint64) {
	if g.Erase(id, epoch) == api.ErrWosNone {
		g.erased[id] = epoch
	}
}

// mayLive tells whether a version may have come, and gone, at its epochs, up to one.
func mayLive(v api.Version, upto uint64) bool {
	if v.Id.Epoch == 0 || v.Id.Epoch > upto {
		return false
	}
	return v.Deleted == 0 || v.Deleted > v.Id.Epoch && v.Deleted <= upto
}

// byName is wos.Less, as sorting asks for it.
func byName(a, b api.RowId) int {
	switch {
	case wos.Less(a, b):
		return -1
	case wos.Less(b, a):
		return 1
	}
	return 0
}
