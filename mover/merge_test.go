package mover_test

import (
	"slices"
	"testing"

	"hayloft/api"
)

// packed has three containers in a, one in b, and in both something that is loose; rows of all of them were deleted.
func packed(t *testing.T) *pair {
	t.Helper()
	p := begin(t)
	p.epoch([]api.Insert{insert(a, 0, 9), insert(a, 1, 8), insert(a, 2, 7), insert(b, 0, 5)})
	p.epoch(nil, erase(a, 1, 0)) // deleted, as its file will say
	p.pack(a)
	p.epoch([]api.Insert{insert(a, 0, 2), insert(a, 1, 8)}, erase(a, 1, 1)) // erased
	p.pack(a)
	p.pack(b)
	p.epoch([]api.Insert{insert(a, 0, 1), insert(b, 0, 4)}, erase(a, 3, 0))
	p.pack(a)
	p.epoch([]api.Insert{insert(a, 0, 3)}, erase(b, 1, 0))
	p.epoch(nil, erase(a, 5, 0))
	return p
}

func TestMerge(t *testing.T) {
	p := packed(t)
	loose, other := p.s.Loose(a), p.s.Container(b, 0)
	p.moves("three into one", merge(), a, nil, 6, api.OK)
	if p.s.Containers(a) != 1 || p.s.Containers(b) != 1 {
		t.Error("P12.3: three into one:", p.s.Containers(a), p.s.Containers(b))
	}
	wantVersions(t, "P12.3: three into one", p.s.Container(a, 0),
		ver(a, 4, 0, 1, 0), ver(a, 3, 0, 2, 4), ver(a, 1, 2, 7, 0), ver(a, 1, 1, 8, 3), ver(a, 3, 1, 8, 0), ver(a, 1, 0, 9, 2))
	wantVersions(t, "P12.3: what is loose stays", p.s.Loose(a), loose...)
	wantVersions(t, "P12.3: another segment", p.s.Container(b, 0), other...)
	if names := p.d.Names(); !slices.Equal(names, []string{"c2", "c4", "manifest", "redo.5"}) {
		t.Error("P12.3: three into one: files:", names)
	}
	p.moves("one into one", merge(), a, nil, 6, api.OK)
	p.moves("what is loose", out(), a, nil, 1, api.OK)
	p.moves("two into one", merge(), a, nil, 7, api.OK)
	if p.s.Containers(a) != 1 || len(p.s.Loose(a)) != 0 {
		t.Error("P12.3: two into one:", p.s.Containers(a), p.s.Loose(a))
	}
}

// What was deleted at or before the mark goes, whether a file says so or it was erased since; it counts. What is loose stays, deleted or not.
func TestMergePurges(t *testing.T) {
	all := []api.Version{
		ver(a, 4, 0, 1, 0), ver(a, 3, 0, 2, 4), ver(a, 1, 2, 7, 0), ver(a, 1, 1, 8, 3), ver(a, 3, 1, 8, 0), ver(a, 1, 0, 9, 2),
	}
	for mark := range uint64(7) {
		p := packed(t)
		p.setMark(mark)
		p.moves("a mark", merge(), a, nil, 6, api.OK)
		left := slices.DeleteFunc(slices.Clone(all), func(v api.Version) bool { return v.Deleted > 0 && v.Deleted <= mark })
		wantVersions(t, "P12.3: a mark", p.s.Container(a, 0), left...)
		wantVersions(t, "P12.3: a mark, what is loose", p.s.Loose(a), ver(a, 5, 0, 3, 6))
	}
}

// If nothing is left there is no container any more.
func TestMergeLeavesNothing(t *testing.T) {
	p := packed(t)
	p.setMark(5)
	p.moves("one, erased", merge(), b, nil, 1, api.OK)
	if p.s.Containers(b) != 0 {
		t.Error("P12.3: one, erased:", p.s.Containers(b))
	}
	wantVersions(t, "P12.3: one, erased", p.s.Versions(b), ver(b, 4, 0, 4, 0))
	p.epoch(nil, erase(a, 1, 2), erase(a, 3, 1), erase(a, 4, 0))
	p.setMark(7)
	p.moves("three, erased", merge(), a, nil, 6, api.OK)
	if p.s.Containers(a) != 0 {
		t.Error("P12.3: three, erased:", p.s.Containers(a))
	}
	wantVersions(t, "P12.3: three, erased", p.s.Versions(a), ver(a, 5, 0, 3, 6))
	if names := p.d.Names(); !slices.Equal(names, []string{"manifest", "redo.6"}) {
		t.Error("P12.3: three, erased: files:", names)
	}
	p.moves("no container any more", merge(), a, nil, 0, api.OK)
}

// Where there is no container nothing is done: what is loose is not asked, nor the disk.
func TestMergeOfNothing(t *testing.T) {
	p := some(t)
	p.setMark(4)
	p.moves("a segment without anything", merge(), c, []int{1, 2}, 0, api.OK)
	p.moves("a segment with loose versions alone", merge(), a, []int{1, 2}, 0, api.OK)
	was := imageOf(p.d)
	p.die()
	p.answers("no container, the disk is dead", merge(), a, nil, 0, api.OK)
	if !imageOf(p.d).same(was) {
		t.Error("P12.3: no container, the disk is dead: the files are others")
	}
}

// Many containers: each of them is told, and goes.
func TestMergeMany(t *testing.T) {
	p := begin(t)
	for i := range int64(40) {
		p.epoch([]api.Insert{insert(c, uint32(i), 50-i), insert(c, uint32(i+1), i)})
		p.pack(c)
	}
	p.moves("forty into one", merge(), c, []int{1, 1, 1}, 80, api.OK)
	if p.s.Containers(c) != 1 || len(p.d.Names()) != 3 {
		t.Error("P12.3: forty into one:", p.s.Containers(c), p.d.Names())
	}
}
