package wos_test

import (
	"math/rand/v2"
	"slices"
	"testing"

	"hayloft/api"
	"hayloft/wos"
)

// model is a wos as the chapter tells it, in no order.
type model map[api.RowId]api.Version

func (m model) add(v api.Version) api.Errno {
	_, there := m[v.Id]
	switch {
	case there:
		return api.ErrWosTwice
	case v.Deleted != 0 && !(v.Deleted > v.Id.Epoch):
		return api.ErrWosEpoch
	}
	m[v.Id] = v
	return api.OK
}

func (m model) erase(id api.RowId, epoch uint64) api.Errno {
	v, there := m[id]
	switch {
	case !there:
		return api.ErrWosNone
	case !(epoch > id.Epoch):
		return api.ErrWosEpoch
	case v.Deleted != 0:
		return api.ErrWosErased
	}
	m[id] = deletedAt(v, epoch)
	return api.OK
}

func (m model) purge(mark uint64) int {
	n := 0
	for id, v := range m {
		if v.Deleted != 0 && v.Deleted <= mark {
			delete(m, id)
			n++
		}
	}
	return n
}

func (m model) all() []api.Version {
	var l []api.Version
	for _, v := range m {
		l = append(l, v)
	}
	slices.SortFunc(l, func(a, b api.Version) int {
		if a.Id.Epoch != b.Id.Epoch {
			return 2*truth(a.Id.Epoch > b.Id.Epoch) - 1
		}
		return truth(a.Id.Number > b.Id.Number) - truth(a.Id.Number < b.Id.Number)
	})
	return l
}

func (m model) clone() model {
	c := model{}
	for id, v := range m {
		c[id] = v
	}
	return c
}

func truth(is bool) int {
	if is {
		return 1
	}
	return 0
}

// anEpoch is one of few, so that names meet; now and then one of the greatest.
func anEpoch(r *rand.Rand) uint64 {
	if r.IntN(20) == 0 {
		return most - uint64(r.IntN(3))
	}
	return uint64(r.IntN(8))
}

func aName(r *rand.Rand) api.RowId { return name(anEpoch(r), uint32(r.IntN(4))) }

// doOne does one call on both, and wants the same answer.
func doOne(t *testing.T, r *rand.Rand, w *wos.Wos, m model) {
	t.Helper()
	id := aName(r)
	switch r.IntN(24) {
	default:
		v := ver(id.Epoch, id.Number, anEpoch(r)*uint64(r.IntN(2)))
		wantErrno(t, "P10.2: Add", w.Add(v), m.add(v))
	case 0, 1, 2, 3, 4, 5, 6, 7:
		epoch := anEpoch(r)
		wantErrno(t, "P10.2: Erase", w.Erase(id, epoch), m.erase(id, epoch))
	case 8, 9:
		mark := anEpoch(r)
		if got, want := w.Purge(mark), m.purge(mark); got != want {
			t.Errorf("P10.4: Purge(%d): %d, want %d", mark, got, want)
		}
	case 10:
		if r.IntN(3) == 0 {
			if got := w.Take(); !alike(got, m.all()) {
				t.Errorf("P10.4: Take: %+v, want %+v", got, m.all())
			}
			clear(m)
		}
	}
	if _, there := m[id]; !there {
		wantNone(t, "P10.3", w, id)
	}
}

// Whatever is called, a wos is as the chapter tells it; so are its clones.
func TestAnyCalls(t *testing.T) {
	greatest := 0
	for seed := range uint64(200) {
		r := rand.New(rand.NewPCG(10, seed))
		w, m := wos.New(), model{}
		var other *wos.Wos
		var otherModel model
		for range 60 {
			doOne(t, r, w, m)
			wantThere(t, "any calls", w, m.all()...)
			if r.IntN(10) == 0 {
				other, otherModel = w.Clone(), m.clone()
			}
			if other != nil {
				doOne(t, r, other, otherModel)
				wantThere(t, "R7: a clone, any calls", other, otherModel.all()...)
			}
			if other != nil && r.IntN(20) == 0 {
				w, m, other, otherModel = other, otherModel, w, m
			}
			greatest = max(greatest, w.Len())
			if t.Failed() {
				t.Fatal("seed", seed)
			}
		}
	}
	if greatest < 8 {
		t.Error("too few were there:", greatest)
	}
}

// some are n versions, no two of one name, in no order.
func some(r *rand.Rand, n int) []api.Version {
	m := model{}
	for len(m) < n {
		id := name(anEpoch(r), uint32(r.IntN(n)))
		m.add(ver(id.Epoch, id.Number, anEpoch(r)*uint64(r.IntN(2))))
	}
	l := m.all()
	r.Shuffle(n, func(i, k int) { l[i], l[k] = l[k], l[i] })
	return l
}

// A Purge changes nothing at or above the mark.
func TestPurgeIsNotSeen(t *testing.T) {
	r := rand.New(rand.NewPCG(10, 1000))
	gone := 0
	for range 300 {
		w := holding(t, some(r, 30)...)
		mark := anEpoch(r)
		was := w.Clone()
		n := w.Purge(mark)
		gone += n
		if w.Len() != was.Len()-n {
			t.Fatalf("P10.4: Purge(%d): %d, and Len %d of %d", mark, n, w.Len(), was.Len())
		}
		for _, epoch := range []uint64{0, 1, 2, 3, 4, 5, 6, 7, 8, 9, 1 << 40, most - 3, most - 2, most - 1, most} {
			if epoch >= mark {
				wantGiven(t, "P10.5: At behind Purge", w.At(epoch), slices.Collect(was.At(epoch)))
			}
		}
	}
	if gone < 300 {
		t.Error("too few were purged:", gone)
	}
}

// In which order versions were added is not seen, by no call.
func TestOrderIsNotSeen(t *testing.T) {
	r := rand.New(rand.NewPCG(10, 1001))
	for range 100 {
		l := some(r, 20)
		one := holding(t, l...)
		r.Shuffle(len(l), func(i, k int) { l[i], l[k] = l[k], l[i] })
		two := holding(t, l...)
		wantThere(t, "P10.5: added in another order", two, slices.Collect(one.All())...)
		id, epoch, mark := l[0].Id, anEpoch(r), anEpoch(r)
		wantErrno(t, "P10.5: Erase", two.Erase(id, epoch), one.Erase(id, epoch))
		if one.Purge(mark) != two.Purge(mark) {
			t.Error("P10.5: Purge")
		}
		if a, b := one.Take(), two.Take(); !alike(a, b) {
			t.Errorf("P10.5: Take: %+v and %+v", a, b)
		}
	}
}

// All orders of four versions.
func TestAllOrders(t *testing.T) {
	l := []api.Version{ver(1, 0, 0), ver(1, 1, 2), ver(2, 0, 5), ver(3, 0, 0)}
	for k := range 4 * 3 * 2 {
		left, order := slices.Clone(l), []api.Version(nil)
		for n := len(left); n > 0; n-- {
			order = append(order, left[k%n])
			left = slices.Delete(left, k%n, k%n+1)
			k /= n
		}
		wantThere(t, "P10.5: any order", holding(t, order...), l...)
	}
}

// A row is seen from the epoch at which it came up to the one ahead of that at which it was deleted.
func TestSeenFromTo(t *testing.T) {
	for came := range uint64(6) {
		for deleted := range uint64(9) {
			if deleted != 0 && deleted <= came {
				continue
			}
			added, erased := holding(t, ver(came, 1, deleted)), holding(t, ver(came, 1, 0))
			if deleted != 0 {
				wantErrno(t, "Erase", erased.Erase(name(came, 1), deleted), api.OK)
			}
			for epoch := range uint64(12) {
				var want []api.Version
				if epoch >= came && (deleted == 0 || epoch <= deleted-1) {
					want = []api.Version{ver(came, 1, 0)}
				}
				wantGiven(t, "P10.6: added as deleted", added.At(epoch), want)
				wantGiven(t, "P10.6: erased", erased.At(epoch), want)
				if wos.Seen(ver(came, 1, deleted), epoch) != (len(want) == 1) {
					t.Errorf("P10.6: came at %d, deleted at %d, at %d", came, deleted, epoch)
				}
			}
		}
	}
}

// A name that was purged or taken may come again, and is seen from then on as it says then.
func TestNameComesAgain(t *testing.T) {
	w := holding(t, ver(1, 0, 2), ver(1, 1, 0))
	w.Purge(2)
	again := api.Version{Id: name(1, 0), Row: []api.Value{{Kind: api.KindText, Text: "again"}}}
	wantErrno(t, "P10.2: Add of what was purged", w.Add(again), api.OK)
	wantThere(t, "P10.2: it came again", w, again, ver(1, 1, 0))
}

// Many versions, in an order that is neither rising nor falling.
func TestMany(t *testing.T) {
	const many = 10007
	w := wos.New()
	var l []api.Version
	for i := range uint64(many) {
		k := i * 5003 % many // many is a prime: each number once
		wantErrno(t, "P10.2: Add", w.Add(ver(k/64, uint32(k%64), 0)), api.OK)
		l = append(l, ver(i/64, uint32(i%64), 0))
	}
	wantGiven(t, "P10.3: many", w.All(), l)
	for i := range l {
		if i%2 == 0 {
			l[i].Deleted = l[i].Id.Epoch + 1
			wantErrno(t, "P10.2: Erase", w.Erase(l[i].Id, l[i].Deleted), api.OK)
		}
	}
	wantGiven(t, "P10.3: half of them deleted", w.All(), l)
	wantGiven(t, "P10.3: half of them deleted", w.At(70), visible(l, 70))
	if n := w.Purge(100); n != 3200 || w.Len() != many-n {
		t.Error("P10.4: Purge of many:", n, w.Len())
	}
}
