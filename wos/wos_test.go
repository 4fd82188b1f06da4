package wos_test

import (
	"math"
	"slices"
	"testing"

	"hayloft/api"
	"hayloft/wos"
)

func TestNew(t *testing.T) {
	w := wos.New()
	wantThere(t, "P10.2: New", w)
	for _, id := range rising() {
		wantNone(t, "P10.3: of nothing", w, id)
		wantErrno(t, "P10.2: Erase of nothing", w.Erase(id, most), api.ErrWosNone)
	}
	if n := w.Purge(most); n != 0 {
		t.Error("P10.4: Purge of nothing:", n)
	}
	if l := w.Take(); len(l) != 0 {
		t.Errorf("P10.4: Take of nothing: %+v", l)
	}
	wantThere(t, "R7: a clone of nothing", w.Clone())
	w.Add(ver(1, 1, 0))
	wantThere(t, "R6: another New", wos.New())
}

func TestAdd(t *testing.T) {
	a, b, c := ver(2, 1, 0), ver(2, 0, 7), ver(1, 9, 2)
	w := wos.New()
	wantErrno(t, "P10.2: Add", w.Add(a), api.OK)
	wantThere(t, "P10.2: one", w, a)
	wantErrno(t, "P10.2: Add", w.Add(b), api.OK)
	wantThere(t, "P10.2: two", w, b, a)
	wantErrno(t, "P10.2: Add", w.Add(c), api.OK)
	wantThere(t, "P10.2: three", w, c, b, a)
	for _, id := range []api.RowId{name(1, 8), name(1, 10), name(2, 2), name(0, 0), name(3, 0), name(9, 1), name(most, math.MaxUint32)} {
		wantNone(t, "P10.3: no such name", w, id)
	}
}

// All names, the least and the greatest too, each in its place.
func TestAddNames(t *testing.T) {
	var l []api.Version
	for _, id := range rising() {
		l = append(l, ver(id.Epoch, id.Number, 0))
	}
	wantThere(t, "P10.2: rising", holding(t, l...), l...)
	back := slices.Clone(l)
	slices.Reverse(back)
	wantThere(t, "P10.2: falling", holding(t, back...), l...)
}

func TestAddTwice(t *testing.T) {
	l := []api.Version{ver(1, 0, 0), ver(2, 0, 5), ver(2, 1, 0)}
	w := holding(t, l...)
	for _, v := range l {
		for _, deleted := range []uint64{0, 9, 5} {
			wantErrno(t, "P10.2: that name is there", w.Add(deletedAt(v, deleted)), api.ErrWosTwice)
		}
		wantErrno(t, "P10.2: twice comes ahead of the epoch", w.Add(deletedAt(v, 1)), api.ErrWosTwice)
		wantErrno(t, "P10.2: another row", w.Add(api.Version{Id: v.Id}), api.ErrWosTwice)
		wantThere(t, "R2: refused", w, l...)
	}
}

func TestAddEpoch(t *testing.T) {
	for _, c := range []struct {
		epoch, deleted uint64
		want           api.Errno
	}{
		{0, 0, api.OK}, {0, 1, api.OK}, {0, most, api.OK},
		{1, 0, api.OK}, {1, 1, api.ErrWosEpoch}, {1, 2, api.OK},
		{7, 0, api.OK}, {7, 1, api.ErrWosEpoch}, {7, 6, api.ErrWosEpoch}, {7, 7, api.ErrWosEpoch}, {7, 8, api.OK}, {7, most, api.OK},
		{1 << 63, 1, api.ErrWosEpoch}, {1 << 63, 1 << 63, api.ErrWosEpoch}, {1 << 63, 1<<63 + 1, api.OK},
		{most, 0, api.OK}, {most, 1, api.ErrWosEpoch}, {most, most, api.ErrWosEpoch},
	} {
		v := ver(c.epoch, 4, c.deleted)
		w := wos.New()
		wantErrno(t, "P10.2: Add", w.Add(v), c.want)
		if c.want == api.OK {
			wantThere(t, "P10.2: Add", w, v)
			continue
		}
		wantThere(t, "R2: refused", w)
		wantNone(t, "R2: refused", w, v.Id)
		wantErrno(t, "R2: refused, and not there", w.Add(deletedAt(v, 0)), api.OK)
	}
}

func TestErase(t *testing.T) {
	a, b, c := ver(1, 0, 0), ver(3, 1, 0), ver(3, 2, 0)
	w := holding(t, a, b, c)
	wantErrno(t, "P10.2: Erase", w.Erase(b.Id, 4), api.OK)
	wantThere(t, "P10.2: one is deleted", w, a, deletedAt(b, 4), c)
	wantErrno(t, "P10.2: Erase", w.Erase(a.Id, 9), api.OK)
	wantThere(t, "P10.2: two are deleted", w, deletedAt(a, 9), deletedAt(b, 4), c)
	wantErrno(t, "P10.2: Erase", w.Erase(c.Id, most), api.OK)
	wantThere(t, "P10.2: all are deleted", w, deletedAt(a, 9), deletedAt(b, 4), deletedAt(c, most))
}

func TestEraseErrors(t *testing.T) {
	l := []api.Version{ver(0, 3, 0), ver(2, 0, 0), ver(2, 1, 6), ver(5, 1, 0), ver(most, 0, 0)}
	w := holding(t, l...)
	for _, c := range []struct {
		id    api.RowId
		epoch uint64
		want  api.Errno
	}{
		{name(2, 2), 3, api.ErrWosNone}, {name(1, 0), 3, api.ErrWosNone}, {name(3, 1), 9, api.ErrWosNone}, {name(0, 0), 1, api.ErrWosNone}, {name(most, 1), most, api.ErrWosNone},
		{name(2, 2), 2, api.ErrWosNone}, {name(2, 2), 0, api.ErrWosNone}, // none comes ahead of the epoch
		{name(0, 3), 0, api.ErrWosEpoch}, {name(2, 0), 0, api.ErrWosEpoch}, {name(2, 0), 1, api.ErrWosEpoch}, {name(2, 0), 2, api.ErrWosEpoch}, {name(5, 1), 5, api.ErrWosEpoch},
		{name(most, 0), 0, api.ErrWosEpoch}, {name(most, 0), most - 1, api.ErrWosEpoch}, {name(most, 0), most, api.ErrWosEpoch},
		{name(2, 1), 0, api.ErrWosEpoch}, {name(2, 1), 2, api.ErrWosEpoch}, // the epoch comes ahead of erased
		{name(2, 1), 3, api.ErrWosErased}, {name(2, 1), 6, api.ErrWosErased}, {name(2, 1), 7, api.ErrWosErased}, {name(2, 1), most, api.ErrWosErased},
	} {
		wantErrno(t, "P10.2: Erase", w.Erase(c.id, c.epoch), c.want)
		wantThere(t, "R2: refused", w, l...)
	}
	wantErrno(t, "P10.2: the next epoch", w.Erase(name(0, 3), 1), api.OK)
	wantErrno(t, "P10.2: the next epoch", w.Erase(name(2, 0), 3), api.OK)
	wantErrno(t, "P10.2: once more", w.Erase(name(2, 0), 3), api.ErrWosErased)
	l[0].Deleted, l[1].Deleted = 1, 3
	wantThere(t, "P10.2: two are deleted", w, l...)
}

func TestPurge(t *testing.T) {
	l := []api.Version{ver(0, 0, 1), ver(1, 0, 5), ver(1, 1, 0), ver(2, 0, 4), ver(2, 1, 3), ver(4, 0, 5), ver(4, 1, most), ver(9, 0, 0)}
	for _, mark := range []uint64{0, 1, 2, 3, 4, 5, 6, most - 1, most} {
		w := holding(t, l...)
		var left []api.Version
		for _, v := range l {
			if v.Deleted == 0 || v.Deleted > mark {
				left = append(left, v)
			}
		}
		if n := w.Purge(mark); n != len(l)-len(left) {
			t.Errorf("P10.4: Purge(%d): %d, want %d", mark, n, len(l)-len(left))
		}
		wantThere(t, "P10.4: purged", w, left...)
		if n := w.Purge(mark); n != 0 {
			t.Errorf("P10.4: Purge(%d) again: %d", mark, n)
		}
		for _, v := range l {
			want := api.ErrWosTwice
			if v.Deleted != 0 && v.Deleted <= mark {
				wantNone(t, "P10.4: purged", w, v.Id)
				wantErrno(t, "P10.4: purged, and erased", w.Erase(v.Id, most), api.ErrWosNone)
				want = api.OK
			}
			wantErrno(t, "P10.4: purged, and added", w.Add(v), want)
		}
		wantThere(t, "P10.4: added anew", w, l...)
	}
}

// What goes by Purge hangs on Erase too.
func TestPurgeErased(t *testing.T) {
	w := holding(t, ver(1, 0, 0), ver(1, 1, 0))
	if n := w.Purge(most); n != 0 {
		t.Error("P10.4: none is deleted:", n)
	}
	w.Erase(name(1, 0), 3)
	if n := w.Purge(2); n != 0 {
		t.Error("P10.4: deleted above the mark:", n)
	}
	if n := w.Purge(3); n != 1 {
		t.Error("P10.4: deleted at the mark:", n)
	}
	wantThere(t, "P10.4: one is left", w, ver(1, 1, 0))
}

func TestTake(t *testing.T) {
	l := []api.Version{ver(1, 2, 0), ver(3, 0, 4), ver(3, 1, 0)}
	w := holding(t, l[2], l[0], l[1])
	for range 3 {
		if got := w.Take(); !alike(got, l) {
			t.Errorf("P10.4: Take: %+v, want %+v", got, l)
		}
		wantThere(t, "P10.4: they are not there any more", w)
		if got := w.Take(); len(got) != 0 {
			t.Errorf("P10.4: Take again: %+v", got)
		}
		for _, v := range l {
			wantNone(t, "P10.4: taken", w, v.Id)
			wantErrno(t, "P10.4: taken, and erased", w.Erase(v.Id, 9), api.ErrWosNone)
			wantErrno(t, "P10.4: taken, and added", w.Add(v), api.OK)
		}
		wantThere(t, "P10.4: added anew", w, l...)
	}
}
