package mover_test

import (
	"math"
	"slices"
	"testing"

	"hayloft/api"
	"hayloft/mover"
	"hayloft/rosfile"
	"hayloft/store"
)

// some has loose versions in a and b: of a's, one was deleted at 2, one at 3, one at 4; the mark is 0.
func some(t *testing.T) *pair {
	t.Helper()
	p := begin(t)
	p.epoch([]api.Insert{insert(a, 0, 9), insert(a, 1, 8), insert(a, 2, 7), insert(a, 3, 6), insert(b, 0, 5)})
	p.epoch([]api.Insert{insert(a, 0, 5), insert(b, 1, 1)}, erase(a, 1, 0))
	p.epoch([]api.Insert{insert(b, 7, 3)}, erase(a, 1, 1))
	p.epoch(nil, erase(a, 1, 2), erase(b, 1, 0))
	return p
}

func TestOut(t *testing.T) {
	p := some(t)
	loose, other := p.s.Loose(a), p.s.Loose(b)
	p.moves("the mark is 0", out(), a, nil, 5, api.OK)
	wantVersions(t, "P12.2: Loose", p.s.Loose(a))
	wantVersions(t, "P12.2: all are in one container", p.s.Container(a, 0),
		ver(a, 2, 0, 5, 0), ver(a, 1, 3, 6, 0), ver(a, 1, 2, 7, 4), ver(a, 1, 1, 8, 3), ver(a, 1, 0, 9, 2))
	wantVersions(t, "P12.2: Versions", p.s.Versions(a), loose...)
	wantVersions(t, "P12.2: another segment", p.s.Loose(b), other...)
	p.moves("the next segment", out(), b, nil, 3, api.OK)
	wantVersions(t, "P12.2: sorted by two columns", p.s.Container(b, 0), ver(b, 3, 7, 3, 0), ver(b, 2, 1, 1, 0), ver(b, 1, 0, 5, 4))
	p.moves("nothing is loose any more", out(), a, nil, 0, api.OK)
	if p.s.Containers(a) != 1 || p.s.Containers(b) != 1 || p.s.Containers(c) != 0 {
		t.Error("P12.2: containers:", p.s.Containers(a), p.s.Containers(b), p.s.Containers(c))
	}
}

// What was deleted at or before the mark does not come into the container; it counts.
func TestOutPurges(t *testing.T) {
	at2, at3, at4 := ver(a, 1, 0, 9, 2), ver(a, 1, 1, 8, 3), ver(a, 1, 2, 7, 4)
	for mark, stay := range [][]api.Version{0: {at4, at3, at2}, 1: {at4, at3, at2}, 2: {at4, at3}, 3: {at4}, 4: nil} {
		p := some(t)
		p.setMark(uint64(mark))
		p.moves("a mark", out(), a, nil, 5, api.OK)
		wantVersions(t, "P12.2: a mark", p.s.Container(a, 0), append([]api.Version{ver(a, 2, 0, 5, 0), ver(a, 1, 3, 6, 0)}, stay...)...)
	}
}

// If nothing is left there is no container, and what was loose is gone.
func TestOutLeavesNothing(t *testing.T) {
	p := some(t)
	p.epoch(nil, erase(a, 1, 3), erase(a, 2, 0))
	p.setMark(5)
	p.moves("all were deleted", out(), a, nil, 5, api.OK)
	if p.s.Containers(a) != 0 || len(p.s.Versions(a)) != 0 {
		t.Error("P12.2: all were deleted:", p.s.Containers(a), p.s.Versions(a))
	}
	if names := p.d.Names(); !slices.Equal(names, []string{"manifest", "redo.1"}) {
		t.Error("P12.2: all were deleted: files:", names)
	}
	p.moves("all are gone", out(), a, nil, 0, api.OK)
}

// A container comes behind those that there are; these stay, and what was erased of them.
func TestOutBehindOthers(t *testing.T) {
	p := some(t)
	p.moves("the first", out(), a, nil, 5, api.OK)
	p.epoch([]api.Insert{insert(a, 0, 1), insert(a, 1, 30)}, erase(a, 2, 0))
	p.setMark(5)
	first := p.s.Container(a, 0)
	p.moves("the second", out(), a, nil, 2, api.OK)
	wantVersions(t, "P12.2: the first container", p.s.Container(a, 0), first...)
	wantVersions(t, "P12.2: the second container", p.s.Container(a, 1), ver(a, 5, 0, 1, 0), ver(a, 5, 1, 30, 0))
}

// Where there is nothing to do nothing is done: the disk is not asked, dead or not.
func TestOutOfNothing(t *testing.T) {
	p := some(t)
	p.setMark(4)
	p.pack(a)
	p.moves("a segment without anything", out(), c, []int{1, 2}, 0, api.OK)
	p.moves("a segment with a container alone", out(), a, []int{1, 2}, 0, api.OK)
	was := imageOf(p.d)
	p.die()
	p.answers("nothing is loose, the disk is dead", out(), c, nil, 0, api.OK)
	p.answers("nothing is loose, the disk is dead", out(), a, nil, 0, api.OK)
	if !imageOf(p.d).same(was) {
		t.Error("P12.2: nothing is loose, the disk is dead: the files are others")
	}
}

// die lets the disk die.
func (p *pair) die() {
	p.t.Helper()
	p.d.Arm(0)
	if e := p.d.Remove("manifest"); e != api.ErrDiskDead {
		p.t.Fatal("the layers below: the disk lives:", e)
	}
}

// A segment that is not here is refused ahead of all else.
func TestNotHere(t *testing.T) {
	for _, m := range []move{out(), merge()} {
		p := some(t)
		p.moves("not here", m, nowhere, nil, 0, api.ErrArg)
		for _, at := range []api.Segment{{}, {Proj: 2}, {Seg: 1}, {Proj: 1, Seg: 2}, {Proj: 300}, {Proj: math.MaxInt, Seg: math.MaxInt}, {Proj: -5, Seg: math.MaxInt}} {
			p.moves("not here", m, at, []int{0}, 0, api.ErrArg)
		}
		p.die()
		p.answers("not here, the disk is dead", m, nowhere, nil, 0, api.ErrArg)
		d := p.d.Crash(nil)
		d.Wipe()
		p.ok("Format", store.Format(d, nil))
		s, e := store.Open(d, nil)
		p.ok("Open", e)
		if n, e := m.call(s, api.Segment{}, nil); n != 0 || e != api.ErrArg {
			t.Errorf("%s: there are no segments: %d, %d", m.what, n, e)
		}
	}
}

// lists are kinds, right and strange, too few and too many.
func lists() [][]int {
	return [][]int{
		nil, {}, {api.EncPlain}, {api.EncRuns}, {api.EncDelta}, {api.EncDict}, {api.EncBits}, {-1}, {99}, {math.MinInt, math.MaxInt},
		{api.EncPlain, api.EncPlain}, {api.EncRuns, api.EncDict}, {api.EncBits, api.EncBits, api.EncBits, api.EncBits},
		{0, 0, 0, 0, 0, 0, 0, 0, 0, 0, 0, 0, 0, 0}, {1, 1, 1, 1, 1, 1, 1, 1, 1, 1, 1, 1, 1, 1, 1, 1, 1, 1},
	}
}

// What is written is what rosfile writes in these kinds; and they are asked: plain bytes are others than runs.
func TestKinds(t *testing.T) {
	for _, at := range []api.Segment{a, b, c} {
		shape := shapeOf(at)
		files := map[string][]int{}
		for _, kinds := range lists() {
			p := begin(t)
			var l []api.Version
			for i := range uint32(70) { // more than one block
				l = append(l, ver(at, 2, i, int64(i/9), 0))
			}
			p.install(2, 0, held(at, l...))
			p.moves("kinds", out(), at, kinds, 70, api.OK)
			want, e := rosfile.Write(shape.Columns, shape.Sort, kinds, l)
			p.ok("Write", e)
			file, _ := p.d.Read("c0")
			if !slices.Equal(file, want) {
				t.Errorf("P12.2: in the kinds %v the file is another than rosfile's", kinds)
			}
			files[string(file)] = kinds
			p.moves("the same kinds", merge(), at, kinds, 70, api.OK)
			if again, _ := p.d.Read("c1"); !slices.Equal(again, want) {
				t.Errorf("P12.3: in the kinds %v the file is another than rosfile's", kinds)
			}
			p.moves("other kinds", merge(), at, []int{api.EncDict}, 70, api.OK)
			wantVersions(t, "P12.4: kinds are seen", p.s.Versions(at), l...)
		}
		if len(files) < 4 {
			t.Error("P12.2: the kinds are not asked:", len(files), "files")
		}
	}
}

// R5: kinds are neither changed nor kept.
func TestKindsMemory(t *testing.T) {
	for _, m := range []move{out(), merge()} {
		p := some(t)
		if m.what == merge().what {
			p.pack(a)
		}
		room := []int{api.EncDict, api.EncPlain, 77}
		p.answers("kinds with room behind them", m, a, room[:1], 5, api.OK)
		if !slices.Equal(room, []int{api.EncDict, api.EncPlain, 77}) {
			t.Errorf("R5: %s has changed its kinds: %v", m.what, room)
		}
	}
}

// R6: the same calls write the same, whatever was done to other stores in between.
func TestOneAnswer(t *testing.T) {
	p, q := some(t), some(t)
	for _, kinds := range lists() {
		p.epoch([]api.Insert{insert(a, 0, 7), insert(a, 1, 7)})
		q.epoch([]api.Insert{insert(a, 0, 7), insert(a, 1, 7)})
		mover.Out(some(t).s, a, []int{1})
		for _, at := range []api.Segment{a, b} {
			n, e := mover.Out(p.s, at, kinds)
			q.answers("once more", out(), at, kinds, n, e)
			n, e = mover.Merge(p.s, at, kinds)
			q.answers("once more", merge(), at, kinds, n, e)
		}
		p.wantLike("R6: the same calls", q)
	}
}
