package store_test

import (
	"math"
	"slices"
	"testing"

	"hayloft/api"
)

func TestNotHere(t *testing.T) {
	p := fullPair(t)
	for _, at := range []api.Segment{nowhere, {}, {Proj: 2}, {Seg: 1}, {Proj: math.MaxInt, Seg: math.MinInt}, {Proj: 1, Seg: 2}} {
		wantVersions(t, "P11.7: not here: Versions", p.s.Versions(at))
		wantVersions(t, "P11.7: not here: Loose", p.s.Loose(at))
		wantVersions(t, "P11.7: not here: Container", p.s.Container(at, 0))
		wantVersions(t, "P11.7: not here: Scan", slices.Collect(p.s.Scan(at, 6)))
		if n := p.s.Containers(at); n != 0 {
			t.Error("P11.7: not here: Containers:", n)
		}
	}
	for _, i := range []int{-1, 2, 3, math.MinInt, math.MaxInt} {
		wantVersions(t, "P11.7: no such container", p.s.Container(a, i))
	}
	wantVersions(t, "P11.7: no container at all", p.s.Container(c, 0))
}

// What the chapter says of a store with something of everything, without a model.
func TestTold(t *testing.T) {
	p := fullPair(t)
	wantVersions(t, "P11.7: Versions", p.s.Versions(a),
		ver(a, 1, 0, 9, 6), ver(a, 1, 1, 3, 4), ver(a, 2, 6, 4, 0), ver(a, 2, 7, 1, 3), ver(a, 2, 8, 4, 3), ver(a, 3, 0, 5, 0), ver(a, 6, math.MaxUint32, 8, 0))
	wantVersions(t, "P11.7: Loose", p.s.Loose(a), ver(a, 2, 6, 4, 0), ver(a, 2, 8, 4, 3), ver(a, 6, math.MaxUint32, 8, 0))
	wantVersions(t, "P11.7: Container 0", p.s.Container(a, 0), ver(a, 1, 1, 3, 4), ver(a, 3, 0, 5, 0), ver(a, 1, 0, 9, 6))
	wantVersions(t, "P11.7: Container 1", p.s.Container(a, 1), ver(a, 2, 7, 1, 3))
	wantNumbers(t, "P11.3: Prepared", p.s.Prepared(), 0, 4, most)
	if p.s.Containers(a) != 2 || p.s.Containers(b) != 1 || p.s.Containers(c) != 0 || p.s.Through() != 6 || p.s.Mark() != 2 {
		t.Error("P11.3, P11.7:", p.s.Containers(a), p.s.Containers(b), p.s.Containers(c), p.s.Through(), p.s.Mark())
	}
	for epoch, want := range [][]api.Version{
		nil,
		{ver(a, 1, 0, 9, 0), ver(a, 1, 1, 3, 0)},
		{ver(a, 1, 0, 9, 0), ver(a, 1, 1, 3, 0), ver(a, 2, 6, 4, 0), ver(a, 2, 7, 1, 0), ver(a, 2, 8, 4, 0)},
		{ver(a, 1, 0, 9, 0), ver(a, 1, 1, 3, 0), ver(a, 2, 6, 4, 0), ver(a, 3, 0, 5, 0)},
		{ver(a, 1, 0, 9, 0), ver(a, 2, 6, 4, 0), ver(a, 3, 0, 5, 0)},
		{ver(a, 1, 0, 9, 0), ver(a, 2, 6, 4, 0), ver(a, 3, 0, 5, 0)},
		{ver(a, 2, 6, 4, 0), ver(a, 3, 0, 5, 0), ver(a, 6, math.MaxUint32, 8, 0)},
	} {
		wantVersions(t, "P11.7: Scan", slices.Collect(p.s.Scan(a, uint64(epoch))), want...)
	}
	wantVersions(t, "P11.7: Scan far ahead", slices.Collect(p.s.Scan(a, most)), slices.Collect(p.s.Scan(a, 6))...)
}

// R11: a range may be left, and gone over again; it tells what there was when it began.
func TestScanRange(t *testing.T) {
	p := fullPair(t)
	seq := p.s.Scan(a, 6)
	was := slices.Collect(p.s.Scan(a, 6))
	for stop := range len(was) + 1 {
		var got []api.Version
		for v := range seq {
			if len(got) == stop {
				break
			}
			got = append(got, v)
		}
		wantVersions(t, "R11: a range that is left", got, was[:stop]...)
	}
	wantVersions(t, "R11: gone over again", slices.Collect(seq), was...)

	changes := []func(){
		func() { p.s.Prepare(7, going(erase(a, 3, 0), erase(a, 2, 6))) },
		func() { p.s.Decide(7, 7) },
		func() { p.s.Install(9, 3, true, nil) },
	}
	at7 := p.s.Scan(a, 7)
	var got []api.Version
	for v := range at7 {
		got = append(got, v)
		if len(changes) > 0 {
			changes[0]()
			changes = changes[1:]
		}
	}
	wantVersions(t, "P11.7: changes while a range goes on", got, was...)
	wantVersions(t, "P11.7: a range that begins behind them", slices.Collect(at7))
	p.s.Install(9, 3, false, []api.Held{held(a, ver(a, 9, 0, 1, 0))})
	wantVersions(t, "P11.7: nothing at 7", slices.Collect(at7))
	wantVersions(t, "P11.7: something at 9", slices.Collect(p.s.Scan(a, 9)), ver(a, 9, 0, 1, 0))
}
