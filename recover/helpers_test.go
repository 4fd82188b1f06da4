package recover_test

import (
	"math"
	"math/rand/v2"
	"slices"
	"testing"

	"hayloft/api"
)

// most is the greatest epoch.
const most = uint64(math.MaxUint64)

func name(epoch uint64, number uint32) api.RowId {
	return api.RowId{Epoch: epoch, Number: number}
}

// ver is a version whose row tells its name.
func ver(epoch uint64, number uint32, deleted uint64) api.Version {
	return marked(epoch, number, deleted, 0)
}

// marked is a version whose row tells its name and a mark, so that several of one name are not mixed up.
func marked(epoch uint64, number uint32, deleted uint64, mark int64) api.Version {
	row := []api.Value{{Kind: api.KindInt, Int: int64(epoch)}, {Kind: api.KindInt, Int: int64(number)}, {Kind: api.KindInt, Int: mark}}
	return api.Version{Id: name(epoch, number), Row: row, Deleted: deleted}
}

// deletedAt is v with another Deleted.
func deletedAt(v api.Version, epoch uint64) api.Version {
	v.Deleted = epoch
	return v
}

func list(l ...api.Version) []api.Version { return l }

func alikeOne(a, b api.Version) bool {
	return a.Id == b.Id && a.Deleted == b.Deleted && slices.Equal(a.Row, b.Row)
}

func alike(a, b []api.Version) bool { return slices.EqualFunc(a, b, alikeOne) }

func wantVersions(t *testing.T, what string, got, want []api.Version) {
	t.Helper()
	if !alike(got, want) {
		t.Errorf("%s: %+v, want %+v", what, got, want)
	}
}

// namesOf are the names that stand in some lists, rising, each once.
func namesOf(lists ...[]api.Version) []api.RowId {
	var l []api.RowId
	for _, v := range slices.Concat(lists...) {
		if !slices.Contains(l, v.Id) {
			l = append(l, v.Id)
		}
	}
	slices.SortFunc(l, func(a, b api.RowId) int {
		switch {
		case a == b:
			return 0
		case a.Epoch < b.Epoch, a.Epoch == b.Epoch && a.Number < b.Number:
			return -1
		}
		return 1
	})
	return l
}

// firstOf is the version of a name that counts.
func firstOf(l []api.Version, id api.RowId) (api.Version, bool) {
	for _, v := range l {
		if v.Id == id {
			return v, true
		}
	}
	return api.Version{}, false
}

// upto, changes, merged are the chapter's promises, said name by name.
func upto(l []api.Version, epoch uint64) []api.Version {
	var out []api.Version
	for _, id := range namesOf(l) {
		v, _ := firstOf(l, id)
		if v.Deleted > epoch {
			v.Deleted = 0
		}
		if id.Epoch <= epoch {
			out = append(out, v)
		}
	}
	return out
}

func changes(l []api.Version, since, to uint64) []api.Version {
	var out []api.Version
	for _, v := range upto(l, to) {
		if v.Id.Epoch > since || v.Deleted > since {
			out = append(out, v)
		}
	}
	return out
}

func merged(have, more []api.Version) []api.Version {
	var out []api.Version
	for _, id := range namesOf(have, more) {
		mine, here := firstOf(have, id)
		other, there := firstOf(more, id)
		switch {
		case !here:
			mine = other
		case there && mine.Deleted == 0:
			mine.Deleted = other.Deleted
		}
		out = append(out, mine)
	}
	return out
}

// some are so many versions in no order, some of them of one name; odd ones may have been deleted by the time at which they came.
func some(r *rand.Rand, many int, odd bool) []api.Version {
	l := make([]api.Version, many)
	for i := range l {
		epoch, deleted := anEpoch(r), uint64(0)
		if r.IntN(2) == 0 {
			deleted = anEpoch(r)
		}
		if !odd && deleted <= epoch {
			deleted = 0
		}
		l[i] = marked(epoch, uint32(r.IntN(4)), deleted, int64(i))
	}
	return l
}

// anEpoch is one of few, so that names meet; now and then one of the greatest.
func anEpoch(r *rand.Rand) uint64 {
	if r.IntN(12) == 0 {
		return most - uint64(r.IntN(3))
	}
	return uint64(r.IntN(9))
}

func shuffled(r *rand.Rand, l []api.Version) []api.Version {
	l = slices.Clone(l)
	r.Shuffle(len(l), func(i, k int) { l[i], l[k] = l[k], l[i] })
	return l
}
