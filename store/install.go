package store

import "hayloft/api"

// Install takes in what others have given, up to an epoch.
func (s *Store) Install(upto, mark uint64, whole bool, l []api.Held) api.Errno {
	if upto < s.through || mark > upto {
		return api.ErrStoreEpoch
	}
	if !s.mayHold(l, upto) {
		return api.ErrStorePart
	}
	next := s.successor()
	next.through = upto
	next.mark = max(mark, s.mark)
	if whole {
		for i, shape := range s.shapes {
			next.segments[i] = newSegment(shape)
		}
	}
	for _, held := range l {
		next.segments[s.places[held.At]].join(held.Versions)
	}
	return s.publish(next, nil)
}

// mayHold tells whether segments that are here, each once at most, may have these versions, up to an epoch.
func (s *Store) mayHold(l []api.Held, upto uint64) bool {
	segments := map[api.Segment]struct{}{}
	for _, held := range l {
		g := s.segment(held.At)
		if g == nil || !mayHave(g.shape, held.Versions, upto) {
			return false
		}
		segments[held.At] = struct{}{}
	}
	return len(segments) == len(l) // else one stands twice
}

func mayHave(shape api.Shape, l []api.Version, upto uint64) bool {
	names := map[api.RowId]struct{}{}
	for _, v := range l {
		if !mayLive(v, upto) || !fits(shape, v.Row) {
			return false
		}
		names[v.Id] = struct{}{}
	}
	return len(names) == len(l)
}

// join adds the versions that are not there, and deletes those that are there, as others tell it.
func (g *segment) join(l []api.Version) {
	for _, v := range l {
		end, there := g.ended(v.Id)
		switch {
		case !there:
			g.Add(v)
		case end == 0 && v.Deleted != 0:
			g.erase(v.Id, v.Deleted)
		}
	}
}
