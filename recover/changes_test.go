package recover_test

import (
	"math/rand/v2"
	"testing"

	"hayloft/api"
	"hayloft/recover"
)

func wantChanges(t *testing.T, why string, l []api.Version, since, to uint64, want ...api.Version) {
	t.Helper()
	if got := recover.Changes(l, since, to); !alike(got, want) {
		t.Errorf("P18.2: %s: Changes(%+v, %d, %d): %+v, want %+v", why, l, since, to, got, want)
	}
}

func TestChangesNothing(t *testing.T) {
	for _, since := range []uint64{0, 1, most} {
		for _, to := range []uint64{0, 1, most} {
			wantChanges(t, "none", nil, since, to)
			wantChanges(t, "an empty list", list(), since, to)
		}
	}
}

// What came behind since, up to upto.
func TestChangesCame(t *testing.T) {
	l := list(ver(4, 1, 0), ver(3, 0, 0), ver(0, 0, 0), ver(4, 0, 0), ver(5, 0, 0), ver(most, 0, 0))
	wantChanges(t, "at epoch 0 there is nothing", l, 0, 0)
	wantChanges(t, "behind since", l, 0, 3, l[1])
	wantChanges(t, "behind since", l, 2, 3, l[1])
	wantChanges(t, "at since", l, 3, 3)
	wantChanges(t, "behind since", l, 3, 4, l[3], l[0])
	wantChanges(t, "behind since", l, 2, 4, l[1], l[3], l[0])
	wantChanges(t, "behind since", l, 4, most-1, l[4])
	wantChanges(t, "at since", l, 5, most-1)
	wantChanges(t, "behind since", l, most-1, most, l[5])
	wantChanges(t, "at since", l, most, most)
}

// What was deleted behind since, up to upto; what was deleted later is told as if it were not.
func TestChangesDeleted(t *testing.T) {
	a := ver(1, 0, 4)
	alive := deletedAt(a, 0)
	wantChanges(t, "came", list(a), 0, 1, alive)
	wantChanges(t, "came", list(a), 0, 3, alive)
	wantChanges(t, "came and was deleted", list(a), 0, 4, a)
	wantChanges(t, "deleted later", list(a), 1, 3)
	wantChanges(t, "deleted later", list(a), 3, 3)
	wantChanges(t, "deleted", list(a), 1, 4, a)
	wantChanges(t, "deleted", list(a), 3, 4, a)
	wantChanges(t, "deleted", list(a), 3, most, a)
	wantChanges(t, "deleted at since", list(a), 4, 4)
	wantChanges(t, "deleted ahead of since", list(a), 4, most)
	wantChanges(t, "deleted ahead of since", list(a), most, most)
	wantChanges(t, "deleted at the last epoch", list(deletedAt(a, most)), 2, most-1)
	wantChanges(t, "deleted at the last epoch", list(deletedAt(a, most)), most-1, most, deletedAt(a, most))
	wantChanges(t, "of epoch 0", list(ver(0, 0, 1)), 0, 0)
	wantChanges(t, "of epoch 0", list(ver(0, 0, 1)), 0, 1, ver(0, 0, 1))
	wantChanges(t, "either is enough", list(ver(5, 0, 3)), 4, 5, ver(5, 0, 3))
	wantChanges(t, "either is enough", list(ver(5, 0, 5)), 4, 9, ver(5, 0, 5))
	wantChanges(t, "neither", list(ver(5, 0, 3)), 5, 9)
}

// Ahead of since nothing is told.
func TestChangesBackward(t *testing.T) {
	l := list(ver(1, 0, 0), ver(1, 1, 2), ver(2, 0, 4), ver(3, 0, 5), ver(4, 0, 0), ver(most, 0, 0))
	for since := range uint64(8) {
		for to := range since + 1 {
			wantChanges(t, "upto is not above since", l, since, to)
		}
	}
	wantChanges(t, "upto is below since", l, most, 3)
	wantChanges(t, "upto is below since", l, most, most-1)
}

// Of several of one name the first one counts, also if it is not told.
func TestChangesFirst(t *testing.T) {
	old, fresh, none := marked(1, 0, 2, 1), marked(1, 0, 6, 2), marked(1, 0, 0, 3)
	wantChanges(t, "the first one was deleted long ago", list(old, fresh, none), 3, 9)
	wantChanges(t, "the first one was not deleted", list(none, fresh, old), 3, 9)
	wantChanges(t, "the first one was deleted behind since", list(fresh, none, old), 3, 9, fresh)
	wantChanges(t, "the first one is deleted later", list(fresh, old), 1, 5)
	wantChanges(t, "the first one is deleted later", list(fresh, old), 0, 5, deletedAt(fresh, 0))
}

func TestChangesModel(t *testing.T) {
	r := rand.New(rand.NewPCG(18, 3))
	told := 0
	for range 3000 {
		l, since, to := some(r, r.IntN(40), true), anEpoch(r), anEpoch(r)
		want := changes(l, since, to)
		told += len(want)
		wantChanges(t, "any list", l, since, to, want...)
		wantChanges(t, "any list once more", l, since, to, want...)
	}
	if told < 3000 {
		t.Error("too few changes:", told)
	}
}
