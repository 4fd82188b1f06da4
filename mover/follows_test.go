package mover_test

import (
	"math/rand/v2"
	"slices"
	"testing"

	"hayloft/api"
	"hayloft/store"
)

// someCall draws a call of the store that does not move anything.
func someCall(r *rand.Rand, s *store.Store) func(s *store.Store) api.Errno {
	txn := uint64(r.IntN(5))
	switch n := r.IntN(20); {
	case n < 9:
		p := somePart(r, s)
		return func(s *store.Store) api.Errno { return s.Prepare(txn, p) }
	case n < 16:
		if waiting := s.Prepared(); len(waiting) > 0 && n > 9 {
			txn = waiting[r.IntN(len(waiting))]
		}
		return func(s *store.Store) api.Errno { return s.Decide(s.Through()+1, txn) }
	case n < 17:
		return func(s *store.Store) api.Errno { return s.Forget(txn) }
	}
	mark := s.Mark() + uint64(r.IntN(3))
	return func(s *store.Store) api.Errno { return s.SetMark(mark) }
}

func somePart(r *rand.Rand, s *store.Store) api.Part {
	var p api.Part
	for range r.IntN(5) {
		at := []api.Segment{a, b, c}[r.IntN(3)]
		p.Inserts = append(p.Inserts, insert(at, uint32(r.IntN(50)), int64(r.IntN(9))))
	}
	for range r.IntN(4) {
		at := []api.Segment{a, b, c}[r.IntN(3)]
		l := slices.Collect(s.Scan(at, s.Through()))
		if r.IntN(9) == 0 {
			l = s.Versions(at)
		}
		if len(l) > 0 {
			p.Erases = append(p.Erases, api.Erase{At: at, Id: l[r.IntN(len(l))].Id})
		}
	}
	return p
}

// Whatever is done, each move is what the chapter says, byte by byte; and a store whose rows are never moved answers, and shows from the mark on, the same.
func TestMovesAreNotSeen(t *testing.T) {
	moved, purged := 0, 0
	for seed := range uint64(40) {
		r := rand.New(rand.NewPCG(12, seed))
		p, still := begin(t), begin(t)
		for range 100 {
			call := someCall(r, still.s)
			if x, y := call(p.s), call(still.s); x != y {
				t.Fatalf("P12.4: behind moves a call answers %d, not %d", x, y)
			}
			if r.IntN(3) == 0 {
				m, at := []move{out(), merge()}[r.IntN(2)], []api.Segment{a, b, c, nowhere}[r.IntN(4)]
				kinds := lists()[r.IntN(len(lists()))]
				ahead := len(p.s.Versions(at))
				n, e := m.hand(p.clone().s, at, kinds)
				p.moves("any", m, at, kinds, n, e)
				moved += min(n, 1)
				purged += ahead - len(p.s.Versions(at))
			}
			if !same(seen(p.s, p.s.Mark()), seen(still.s, p.s.Mark())) {
				t.Errorf("P12.4: moves are seen")
			}
			if r.IntN(10) == 0 {
				p.s = open(t, p.d)
			}
			if t.Failed() {
				t.Fatal("seed", seed)
			}
		}
	}
	if moved < 200 || purged < 50 {
		t.Error("too few moves, or too little was purged:", moved, purged)
	}
}

// What is prepared is not asked by a move: a transaction that erases a row is decided, wherever the row lies by then.
func TestMovesWhilePrepared(t *testing.T) {
	p := some(t)
	p.ok("Prepare", p.s.Prepare(7, api.Part{Inserts: []api.Insert{insert(a, 0, 4)}, Erases: []api.Erase{erase(a, 2, 0), erase(b, 2, 1)}}))
	p.moves("while 7 is prepared", out(), a, nil, 5, api.OK)
	p.moves("while 7 is prepared", out(), b, nil, 3, api.OK)
	p.moves("while 7 is prepared", merge(), a, nil, 5, api.OK)
	p.ok("Decide", p.s.Decide(5, 7))
	wantVersions(t, "P12.4: 7 is decided", slices.Collect(p.s.Scan(a, 5)), ver(a, 1, 3, 6, 0), ver(a, 5, 0, 4, 0))
	wantVersions(t, "P12.4: 7 is decided", slices.Collect(p.s.Scan(b, 5)), ver(b, 3, 7, 3, 0))
	p.setMark(5)
	p.moves("what 7 erased goes", merge(), a, nil, 5, api.OK)
	wantVersions(t, "P12.3: what 7 erased goes", p.s.Versions(a), ver(a, 1, 3, 6, 0), ver(a, 5, 0, 4, 0))
}
