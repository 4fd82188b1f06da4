package recover_test

import (
	"math/rand/v2"
	"slices"
	"testing"

	"hayloft/api"
	"hayloft/recover"
)

var spoilt = api.Value{Kind: 77, Bool: true, Int: 77, Text: "spoilt"}

// deep is a copy that shares no memory.
func deep(l []api.Version) []api.Version {
	out := slices.Clone(l)
	for i := range out {
		out[i].Row = slices.Clone(out[i].Row)
	}
	return out
}

// spoil writes over all of l, its rows, and the spare room of both.
func spoil(l []api.Version) {
	l = l[:cap(l)]
	for i := range l {
		row := l[i].Row[:cap(l[i].Row)]
		for k := range row {
			row[k] = spoilt
		}
		l[i] = marked(77, 77, 78, 79)
	}
}

// roomy is l, and its rows, with something in the spare room of each; still tells whether all of it stands.
func roomy(l []api.Version) (handed []api.Version, still func() bool) {
	var whole []api.Version
	for _, v := range l {
		v.Row = append(slices.Clone(v.Row), spoilt, spoilt, spoilt)
		whole = append(whole, v)
	}
	whole = append(whole, ver(5, 5, 5), ver(6, 6, 6), ver(4, 4, 4))
	kept := deep(whole)
	room := slices.Clone(whole)
	for i, v := range l {
		room[i].Row = room[i].Row[:len(v.Row)]
	}
	want := slices.Clone(room)
	return room[:len(l)], func() bool { return alike(whole, kept) && alike(room, want) }
}

// answers are those of all calls that tell versions.
func answers(have, more []api.Version) [][]api.Version {
	return [][]api.Version{
		recover.Upto(have, 5), recover.Upto(have, most), recover.Upto(more, 0),
		recover.Changes(have, 2, 5), recover.Changes(have, 0, most), recover.Changes(more, 7, 3),
		recover.Merged(have, more), recover.Merged(more, have), recover.Merged(nil, have), recover.Merged(have, nil), recover.Merged(have, have),
		recover.Upto(have, most), recover.Changes(have, 0, most), recover.Merged(have, more),
	}
}

// R5: what is handed in is not changed, nor the spare room behind it, neither by a call nor by what is written to its answer.
func TestListsStay(t *testing.T) {
	r := rand.New(rand.NewPCG(18, 12))
	for range 100 {
		have, haveStill := roomy(some(r, 30, true))
		more, moreStill := roomy(some(r, 20, true))
		l := answers(have, more)
		if !haveStill() || !moreStill() {
			t.Fatal("R5: a call changes what it is handed")
		}
		for i := range l {
			spoil(l[i])
			if !haveStill() || !moreStill() {
				t.Fatalf("R5: answer %d shares memory with what was handed in", i)
			}
		}
	}
}

// R5: what is handed in is not kept, and no answer shows what is written to another one.
func TestAnswersAreNew(t *testing.T) {
	r := rand.New(rand.NewPCG(18, 13))
	for range 100 {
		have, more := some(r, 30, true), some(r, 20, true)
		l := answers(have, more)
		var want [][]api.Version
		for _, versions := range l {
			want = append(want, deep(versions))
		}
		spoil(have)
		spoil(more)
		for i := range l {
			for k := i; k < len(l); k++ {
				if !alike(l[k], want[k]) {
					t.Fatalf("R5: answer %d shows what was written elsewhere", k)
				}
			}
			spoil(l[i])
		}
	}
}

// R5: no two rows of an answer share memory, though those that are handed in do.
func TestRowsAreApart(t *testing.T) {
	room := append(ver(1, 0, 0).Row, ver(2, 0, 0).Row...)
	handed := list(
		api.Version{Id: name(1, 0), Row: room[:3]}, api.Version{Id: name(1, 1), Row: room[:3], Deleted: 3},
		api.Version{Id: name(1, 2), Row: room[:0]}, api.Version{Id: name(2, 0), Row: room[3:]}, api.Version{Id: name(2, 1), Row: room},
	)
	for i, l := range answers(handed, handed[:2]) {
		want := deep(l)
		for k := range l {
			row := l[k].Row[:cap(l[k].Row)]
			for n := range row {
				row[n] = spoilt
			}
			if !alike(l[k+1:], want[k+1:]) {
				t.Errorf("R5: in answer %d row %d shares memory with a later one", i, k)
			}
		}
	}
	if !slices.Equal(room, append(ver(1, 0, 0).Row, ver(2, 0, 0).Row...)) {
		t.Errorf("R5: what was handed in is changed: %v", room)
	}
}

// R5: so it is of segments.
func TestMissingMemory(t *testing.T) {
	whole := segs(seg(0, 0), seg(0, 1), seg(1, 0), seg(1, 1), seg(9, 9))
	want, have := slices.Clone(whole)[:4], held(seg(0, 1))
	have[0].Versions = rising()
	for _, h := range [][]api.Held{nil, have} {
		first, second := recover.Missing(want, h), recover.Missing(want, h)
		kept := slices.Clone(second)
		for i := range first[:cap(first)] {
			first[:cap(first)][i] = seg(77, 77)
		}
		if !slices.Equal(second, kept) || !slices.Equal(want[:5], whole) {
			t.Errorf("R5: Missing's answers share memory: %v, %v", second, want[:5])
		}
	}
	wantMissing(t, "R5: what is handed in stays", whole, have, seg(0, 0), seg(1, 0), seg(1, 1), seg(9, 9))
	wantVersions(t, "R5: what is handed in stays", have[0].Versions, rising())
	missing := recover.Missing(want, have)
	for i := range want {
		want[i] = seg(66, 66)
	}
	if !slices.Equal(missing, segs(seg(0, 0), seg(1, 0), seg(1, 1))) {
		t.Errorf("R5: Missing's answer shows what was written to what it was handed: %v", missing)
	}
}
