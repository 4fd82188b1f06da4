package store

import (
	"slices"

	"hayloft/api"
)

// Replace lays a container in the place of others, and of what is in memory.
func (s *Store) Replace(at api.Segment, drop []int, loose bool, file []byte) api.Errno {
	place, ok := s.places[at]
	if !ok || !mayDrop(drop, len(s.segments[place].containers)) {
		return api.ErrStorePart
	}
	next := s.successor()
	g := next.segments[place]
	gone := g.leave(drop)
	if loose {
		gone = append(gone, g.Take()...)
	}
	var come []api.Version
	if len(file) > 0 {
		c, ok := readContainer(s.next, g.shape, file)
		if !ok {
			return api.ErrStorePart
		}
		come = slices.Collect(c.file.All())
		g.containers = append(g.containers, c)
		next.next++
	}
	if !mayFollow(gone, come, s.mark) {
		return api.ErrStorePart
	}
	return s.publish(next, file)
}

// mayDrop tells whether these are places of some of so many containers, each once at most.
func mayDrop(drop []int, many int) bool {
	for i, place := range drop {
		if place < 0 || place >= many || slices.Contains(drop[:i], place) {
			return false
		}
	}
	return true
}

// leave takes the containers at these places away, and answers their versions.
func (g *segment) leave(drop []int) []api.Version {
	var gone []api.Version
	var left []container
	for i, c := range g.containers {
		if slices.Contains(drop, i) {
			gone = slices.AppendSeq(gone, g.told(c))
		} else {
			left = append(left, c)
		}
	}
	for _, v := range gone {
		delete(g.erased, v.Id)
	}
	g.containers = left
	return gone
}

// mayFollow tells whether those that come are those that go, but some that nobody asks for behind the mark.
func mayFollow(gone, come []api.Version, mark uint64) bool {
	left := make(map[api.RowId]api.Version, len(gone))
	for _, v := range gone {
		left[v.Id] = v
	}
	for _, v := range come {
		was, ok := left[v.Id]
		if !ok || was.Deleted != v.Deleted || !slices.Equal(was.Row, v.Row) {
			return false
		}
		delete(left, v.Id)
	}
	for _, v := range left {
		if v.Deleted == 0 || v.Deleted > mark {
			return false
		}
	}
	return true
}
