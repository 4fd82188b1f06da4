package store_test

import (
	"math/rand/v2"
	"slices"
	"testing"

	"hayloft/api"
	"hayloft/disk"
	"hayloft/store"
)

// call is one that may be made of a store and of a world.
type call struct {
	what  string
	store func(s *store.Store) api.Errno
	world func(w *world) api.Errno
}

func one3(r *rand.Rand) api.Segment { return []api.Segment{a, b, c}[r.IntN(3)] }

// somePart draws a part, most of them such as can be done.
func somePart(r *rand.Rand, w *world) api.Part {
	var p api.Part
	for range r.IntN(4) {
		at := one3(r)
		p.Inserts = append(p.Inserts, insert(at, uint32(r.IntN(20)), int64(r.IntN(50))))
	}
	for range r.IntN(3) {
		i := r.IntN(3)
		if l := w.segments[i].versions(); len(l) > 0 {
			p.Erases = append(p.Erases, api.Erase{At: w.shapes[i].At, Id: l[r.IntN(len(l))].Id})
		}
	}
	if r.IntN(20) == 0 {
		p.Inserts = append(p.Inserts, insert(nowhere, 0, 0))
	}
	return p
}

func prepareCall(r *rand.Rand, w *world) call {
	txn, p := uint64(r.IntN(6)), somePart(r, w)
	return call{"P11.4: Prepare",
		func(s *store.Store) api.Errno { return s.Prepare(txn, p) },
		func(w *world) api.Errno { return w.prepare(txn, p) }}
}

func decideCall(r *rand.Rand, w *world) call {
	epoch, txn := w.through+1, uint64(r.IntN(6))
	if r.IntN(8) == 0 {
		epoch = uint64(r.IntN(12))
	}
	return call{"P11.5: Decide",
		func(s *store.Store) api.Errno { return s.Decide(epoch, txn) },
		func(w *world) api.Errno { return w.decide(epoch, txn) }}
}

func forgetCall(r *rand.Rand) call {
	txn := uint64(r.IntN(6))
	return call{"P11.5: Forget",
		func(s *store.Store) api.Errno { return s.Forget(txn) },
		func(w *world) api.Errno { return w.forget(txn) }}
}

func markCall(r *rand.Rand, w *world) call {
	mark := uint64(r.IntN(int(w.through) + 2))
	return call{"P11.6: SetMark",
		func(s *store.Store) api.Errno { return s.SetMark(mark) },
		func(w *world) api.Errno { return w.setMark(mark) }}
}

func replaceCall(t *testing.T, r *rand.Rand, w *world) call {
	i := r.IntN(3)
	g, at := w.segments[i], w.shapes[i].At
	var drop []int
	var l []api.Version
	for _, k := range r.Perm(len(g.files)) {
		if r.IntN(2) == 0 {
			drop = append(drop, k)
			l = append(l, g.container(k)...)
		}
	}
	loose := r.IntN(2) == 0
	if loose {
		l = append(l, g.loose...)
	}
	l = slices.DeleteFunc(l, func(v api.Version) bool {
		return v.Deleted != 0 && v.Deleted <= w.mark && r.IntN(3) > 0 || r.IntN(60) == 0
	})
	var file []byte
	if len(l) > 0 {
		file = fileOf(t, at, l...)
	}
	return call{"P11.8: Replace",
		func(s *store.Store) api.Errno { return s.Replace(at, drop, loose, file) },
		func(w *world) api.Errno { return w.replace(at, drop, loose, file) }}
}

func installCall(r *rand.Rand, w *world) call {
	upto := w.through + uint64(r.IntN(3))
	mark := min(uint64(r.IntN(int(upto)+1)), w.mark+1)
	whole := r.IntN(3) == 0
	var l []api.Held
	for i, shape := range w.shapes {
		var give []api.Version
		for _, v := range w.segments[i].versions() {
			if r.IntN(3) > 0 {
				if v.Deleted == 0 && v.Id.Epoch < upto && r.IntN(3) == 0 {
					v.Deleted = upto
				}
				give = append(give, v)
			}
		}
		if upto > 0 {
			give = append(give, ver(shape.At, upto, uint32(100+r.IntN(9)), int64(r.IntN(50)), 0))
		}
		r.Shuffle(len(give), func(i, k int) { give[i], give[k] = give[k], give[i] })
		if r.IntN(4) > 0 {
			l = append(l, held(shape.At, give...))
		}
	}
	return call{"P11.9: Install",
		func(s *store.Store) api.Errno { return s.Install(upto, mark, whole, l) },
		func(w *world) api.Errno { return w.install(upto, mark, whole, l) }}
}

// someCall draws a call; w says what there is.
func someCall(t *testing.T, r *rand.Rand, w *world) call {
	switch n := r.IntN(40); {
	case n < 14:
		return prepareCall(r, w)
	case n < 28:
		return decideCall(r, w)
	case n < 30:
		return forgetCall(r)
	case n < 33:
		return markCall(r, w)
	case n < 38:
		return replaceCall(t, r, w)
	}
	return installCall(r, w)
}

// Whatever is called, a store is as the chapter tells it, its files too; and so it is opened anew.
func TestAnyCalls(t *testing.T) {
	refused, done := 0, 0
	for seed := range uint64(60) {
		r := rand.New(rand.NewPCG(11, seed))
		p := newPair(t)
		for range 60 {
			x := someCall(t, r, p.w)
			want := x.world(p.w)
			wantErrno(t, x.what, x.store(p.s), want)
			if want == api.OK {
				done++
			} else {
				refused++
			}
			p.same(x.what)
			if r.IntN(5) == 0 {
				p.s = open(t, "anew", p.d, three())
				p.same("P11.11: opened anew")
			}
			if t.Failed() {
				t.Fatal("seed", seed)
			}
		}
	}
	if refused < 200 || done < 1500 {
		t.Error("too few were refused, or done:", refused, done)
	}
}

// A Replace changes nothing that Scan tells of an epoch from the mark on.
func TestReplaceIsNotSeen(t *testing.T) {
	replaced := 0
	for seed := range uint64(40) {
		r := rand.New(rand.NewPCG(12, seed))
		p := newPair(t)
		for range 50 {
			x := someCall(t, r, p.w)
			var was [][]api.Version
			mark := p.s.Mark()
			tell := func() [][]api.Version {
				var l [][]api.Version
				for epoch := mark; epoch <= p.s.Through()+1; epoch++ {
					for _, at := range []api.Segment{a, b, c} {
						l = append(l, slices.Collect(p.s.Scan(at, epoch)))
					}
				}
				return l
			}
			was = tell()
			x.world(p.w)
			if x.store(p.s) == api.OK && x.what == "P11.8: Replace" {
				replaced++
				if now := tell(); !slices.EqualFunc(was, now, alike) {
					t.Fatalf("P11.11: Replace is seen from the mark on: %v, %v", was, now)
				}
			}
		}
	}
	if replaced < 100 {
		t.Error("too few were replaced:", replaced)
	}
}

// keeps are how many bytes of each file may survive: none, all, and some of each.
func keeps(r *rand.Rand, d *disk.Disk) [][]int {
	n := len(d.Names())
	none, all, some := make([]int, n), make([]int, n), make([]int, n)
	for i := range n {
		all[i] = 1 << 30
		some[i] = r.IntN(40) << r.IntN(6)
	}
	return [][]int{none, all, some}
}

// Wherever a disk dies in a row of calls, what is found is a store that has all that was answered, and perhaps the one call that was not; so again, if it dies while it is opened.
func TestCrash(t *testing.T) {
	deaths, without, with := 0, 0, 0
	for seed := range uint64(12) {
		r := rand.New(rand.NewPCG(13, seed))
		ahead := newPair(t)
		for range 10 + r.IntN(30) {
			x := someCall(t, r, ahead.w)
			x.world(ahead.w)
			x.store(ahead.s)
		}
		for range 12 {
			x := someCall(t, r, ahead.w)
			before, after := ahead.w, ahead.w.clone()
			if x.world(after) != api.OK {
				continue
			}
			for n := 0; ; n++ {
				d := ahead.d.Clone()
				s := open(t, "ahead of a crash", d, three())
				d.Arm(n)
				e := x.store(s)
				if e == api.OK {
					break
				}
				deaths++
				wantErrno(t, "P11.10: "+x.what+" dies", e, api.ErrDiskDead)
				before.want(t, "R2: "+x.what+" dies", s)
				for _, keep := range keeps(r, d) {
					if found := crashed(t, r, d.Crash(keep), before, after); found == after {
						with++
					} else {
						without++
					}
				}
			}
			x.store(ahead.s)
			ahead.w = after
		}
	}
	if deaths < 200 || without < 200 || with < 200 {
		t.Error("too few deaths, or without the call, or with it:", deaths, without, with)
	}
}

// crashed wants that one of the two is found on a disk, also if that dies while it is opened; and that it goes on from there.
func crashed(t *testing.T, r *rand.Rand, d *disk.Disk, before, after *world) *world {
	t.Helper()
	for n := 0; ; n++ {
		again := d.Clone()
		again.Arm(n)
		s, e := store.Open(again, three())
		if e == api.OK {
			found := before
			if after.is(s) {
				found = after
			}
			found.want(t, "P11.10: found behind a crash", s)
			goesOn(t, again, s, found)
			return found
		}
		wantErrno(t, "P11.10: it dies while it is opened", e, api.ErrDiskDead)
		for _, keep := range keeps(r, again) {
			u := open(t, "P11.10: it died while it was opened", again.Crash(keep), three())
			if !before.is(u) && !after.is(u) {
				t.Fatal("P11.10: neither what was answered, nor that and one call more")
			}
		}
	}
}

// goesOn wants that a store that was found does what it must from then on.
func goesOn(t *testing.T, d *disk.Disk, s *store.Store, found *world) {
	t.Helper()
	d.Arm(-1)
	w := found.clone()
	wantErrno(t, "P11.10: Decide behind a crash", s.Decide(w.through+1, 3), w.decide(w.through+1, 3))
	wantErrno(t, "P11.10: Replace behind a crash", s.Replace(a, nil, false, nil), w.replace(a, nil, false, nil))
	wantErrno(t, "P11.10: Prepare behind a crash", s.Prepare(9, coming(insert(a, 0, 5))), w.prepare(9, coming(insert(a, 0, 5))))
	w.want(t, "P11.10: it goes on behind a crash", s)
	w.want(t, "P11.10: it goes on behind a crash, opened anew", open(t, "behind a crash", d, three()))
}

// The same calls on two disks come to the same, byte by byte.
func TestOneAnswer(t *testing.T) {
	for seed := range uint64(20) {
		var images []image
		for range 2 {
			r := rand.New(rand.NewPCG(14, seed))
			p := newPair(t)
			for range 60 {
				x := someCall(t, r, p.w)
				x.world(p.w)
				x.store(p.s)
			}
			images = append(images, imageOf(p.d))
		}
		if !images[0].same(images[1]) {
			t.Error("R6: the same calls write other files")
		}
	}
}
