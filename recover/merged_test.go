package recover_test

import (
	"math/rand/v2"
	"slices"
	"testing"

	"hayloft/api"
	"hayloft/recover"
)

func wantMerged(t *testing.T, why string, have, more []api.Version, want ...api.Version) {
	t.Helper()
	if got := recover.Merged(have, more); !alike(got, want) {
		t.Errorf("P18.3: %s: Merged(%+v, %+v): %+v, want %+v", why, have, more, got, want)
	}
}

func TestMergedNothing(t *testing.T) {
	for _, none := range [][]api.Version{nil, {}} {
		wantMerged(t, "nothing", nil, none)
		wantMerged(t, "nothing", none, nil)
		wantMerged(t, "nothing more", rising(), none, rising()...)
		wantMerged(t, "nothing here", none, rising(), rising()...)
	}
}

// Each name of either list, by rising names, in whatever order they are handed in.
func TestMergedNames(t *testing.T) {
	r := rand.New(rand.NewPCG(18, 4))
	for range 300 {
		l := shuffled(r, rising())
		cut, back := r.IntN(len(l)+1), r.IntN(4)
		wantMerged(t, "names", l[:cut], l[max(cut-back, 0):], rising()...)
	}
}

// A name that is in both: have's version, but deleted when more says it, unless it knows by itself.
func TestMergedDeleted(t *testing.T) {
	for _, c := range []struct{ have, more, want uint64 }{
		{0, 0, 0},
		{0, 3, 3}, {0, 1, 1}, {0, most, most}, {0, 1 << 63, 1 << 63},
		{3, 0, 3}, {3, 3, 3}, {3, 2, 3}, {3, 9, 3}, {1, 0, 1}, {most, 0, most}, {most, 5, most}, {5, most, 5},
	} {
		mine, other := marked(1, 0, c.have, 1), marked(1, 0, c.more, 2)
		wantMerged(t, "of both", list(mine), list(other), deletedAt(mine, c.want))
		wantMerged(t, "of both, and others", list(ver(2, 0, 0), mine), list(ver(0, 0, 7), other, ver(1, 1, 0)),
			ver(0, 0, 7), deletedAt(mine, c.want), ver(1, 1, 0), ver(2, 0, 0))
	}
	// A name of one list alone: as it stands there.
	wantMerged(t, "of one", list(ver(1, 0, 3), ver(1, 1, 0)), list(ver(1, 2, 5), ver(1, 3, 0)), ver(1, 0, 3), ver(1, 1, 0), ver(1, 2, 5), ver(1, 3, 0))
	wantMerged(t, "the number is part of the name", list(ver(1, 0, 0)), list(ver(1, 1, 5)), ver(1, 0, 0), ver(1, 1, 5))
	wantMerged(t, "the epoch is part of the name", list(ver(1, 0, 0)), list(ver(2, 0, 5)), ver(1, 0, 0), ver(2, 0, 5))
	wantMerged(t, "deleted by the time at which it came", list(ver(5, 0, 0)), list(ver(5, 0, 3), ver(6, 0, 6)), ver(5, 0, 3), ver(6, 0, 6))
}

// Of several of one name in a list the first one counts alone, in either list.
func TestMergedFirst(t *testing.T) {
	none, early, late := marked(1, 0, 0, 1), marked(1, 0, 3, 2), marked(1, 0, 9, 3)
	wantMerged(t, "of one name here", list(none, early, late), nil, none)
	wantMerged(t, "of one name here", list(early, none, late), nil, early)
	wantMerged(t, "of one name there", nil, list(none, early, late), none)
	wantMerged(t, "of one name there", nil, list(late, early, none), late)
	wantMerged(t, "of one name in both", list(none, early), list(late, early), deletedAt(none, 9))
	wantMerged(t, "of one name in both", list(early, none), list(late, none), early)
	wantMerged(t, "the first one there was not deleted", list(none), list(marked(1, 0, 0, 4), late), none)
	wantMerged(t, "the first one there was not deleted", list(none, late), list(marked(1, 0, 0, 4), early), none)
}

func TestMergedModel(t *testing.T) {
	r := rand.New(rand.NewPCG(18, 5))
	both := 0
	for range 3000 {
		have, more := some(r, r.IntN(30), true), some(r, r.IntN(30), true)
		want := merged(have, more)
		both += len(namesOf(have)) + len(namesOf(more)) - len(want)
		wantMerged(t, "any lists", have, more, want...)
		wantMerged(t, "any lists once more", have, more, want...)
	}
	if both < 3000 {
		t.Error("too few names were in both:", both)
	}
}

// Lists so long that an order which is not kept would be seen.
func TestMergedLong(t *testing.T) {
	r := rand.New(rand.NewPCG(18, 6))
	have, more := some(r, 1500, true), some(r, 1500, true)
	wantMerged(t, "long lists", have, more, merged(have, more)...)
	wantMerged(t, "a list onto itself", have, have, merged(have, have)...)
	if !slices.EqualFunc(merged(have, have), upto(have, most), alikeOne) {
		t.Error("a list onto itself is another one")
	}
}
