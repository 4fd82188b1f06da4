package recover_test

import (
	"math/rand/v2"
	"slices"
	"testing"

	"hayloft/api"
	"hayloft/recover"
)

// epochs are some, rising; one may come more than once.
func epochs(r *rand.Rand, many int) []uint64 {
	l := make([]uint64, many)
	for i := range l {
		l[i] = anEpoch(r)
	}
	slices.Sort(l)
	return l
}

// What a node has, and the changes since then, is what there is now.
func TestOneStep(t *testing.T) {
	r := rand.New(rand.NewPCG(18, 8))
	for range 3000 {
		l, at := some(r, r.IntN(40), false), epochs(r, 2)
		have, more := recover.Upto(l, at[0]), recover.Changes(l, at[0], at[1])
		wantVersions(t, "P18.5: one step", recover.Merged(have, more), recover.Upto(l, at[1]))
		wantVersions(t, "P18.5: one step, in no order", recover.Merged(shuffled(r, have), shuffled(r, more)), recover.Upto(l, at[1]))
	}
}

// By several steps as by one, each of another buddy, which has its versions in another order; a step may be done twice.
func TestManySteps(t *testing.T) {
	r := rand.New(rand.NewPCG(18, 9))
	for range 1000 {
		l := upto(some(r, 40, false), most) // each name once, so that the order says nothing
		at := epochs(r, 1+r.IntN(6))
		have := recover.Upto(l, at[0])
		for i, epoch := range at[1:] {
			more := recover.Changes(shuffled(r, l), at[i], epoch)
			have = recover.Merged(have, more)
			if r.IntN(3) == 0 {
				have = recover.Merged(have, more)
			}
		}
		wantVersions(t, "P18.5: many steps", have, recover.Upto(l, at[len(at)-1]))
	}
}

// without leaves out some of those that were deleted at or before an epoch.
func without(r *rand.Rand, l []api.Version, epoch uint64) []api.Version {
	return slices.DeleteFunc(slices.Clone(l), func(v api.Version) bool {
		return v.Deleted != 0 && v.Deleted <= epoch && r.IntN(3) > 0
	})
}

// What was deleted at or before since, and is gone at the buddy, is not missed.
func TestPurgedIsNotMissed(t *testing.T) {
	r := rand.New(rand.NewPCG(18, 10))
	gone := 0
	for range 3000 {
		l, since, to := upto(some(r, 40, false), most), anEpoch(r), anEpoch(r)
		left := without(r, l, since)
		gone += len(l) - len(left)
		wantVersions(t, "P18.6: Changes", recover.Changes(left, since, to), recover.Changes(l, since, to))
	}
	if gone < 3000 {
		t.Error("too few were left out:", gone)
	}
}

// seen are the names that are visible at an epoch.
func seen(l []api.Version, epoch uint64) []api.RowId {
	var out []api.RowId
	for _, v := range l {
		if v.Id.Epoch <= epoch && (v.Deleted == 0 || v.Deleted > epoch) {
			out = append(out, v.Id)
		}
	}
	return out
}

// A node that was away comes back: it sees at each epoch from the marks on what its buddy, whose mark is another one, sees.
func TestComesBack(t *testing.T) {
	r := rand.New(rand.NewPCG(18, 11))
	for range 1000 {
		l := upto(some(r, 40, false), most)
		at := epochs(r, 4) // the node's mark, the buddy's, since, upto
		have := recover.Merged(without(r, recover.Upto(l, at[2]), at[0]), recover.Changes(without(r, l, at[1]), at[2], at[3]))
		fresh := recover.Upto(without(r, l, at[1]), at[3])
		for _, epoch := range []uint64{at[1], at[2], at[3], (at[1] + at[3]) / 2} {
			if epoch < at[1] || epoch > at[3] {
				continue
			}
			if got, want := seen(have, epoch), seen(l, epoch); !slices.Equal(got, want) {
				t.Errorf("P18.6: a node that was away sees at %d %v, want %v", epoch, got, want)
			}
			if got, want := seen(fresh, epoch), seen(l, epoch); !slices.Equal(got, want) {
				t.Errorf("P18.6: a node that lost its disk sees at %d %v, want %v", epoch, got, want)
			}
		}
	}
}
