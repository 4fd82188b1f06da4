package mover_test

import (
	"math"
	"math/rand/v2"
	"slices"
	"strings"
	"testing"

	"hayloft/api"
	"hayloft/mover"
	"hayloft/value"
)

func wantJoined(t *testing.T, why string, sort []int, l [][]api.Version, mark uint64, want ...api.Version) {
	t.Helper()
	if got := mover.Join(sort, l, mark); !alike(got, want) {
		t.Errorf("P12.1: %s: Join(%v, %v, %d): %v, want %v", why, sort, l, mark, got, want)
	}
}

// of is a version with any row.
func of(epoch uint64, number uint32, deleted uint64, row ...api.Value) api.Version {
	return api.Version{Id: name(epoch, number), Row: row, Deleted: deleted}
}

func TestJoinNothing(t *testing.T) {
	for _, l := range [][][]api.Version{nil, {}, {nil}, {{}}, {nil, {}, nil}} {
		for _, mark := range []uint64{0, 1, math.MaxUint64} {
			wantJoined(t, "nothing", nil, l, mark)
			wantJoined(t, "nothing", []int{0, 1}, l, mark)
		}
	}
}

// All lists are joined, those without a version and the last one too; by the sort columns, not by lists.
func TestJoinLists(t *testing.T) {
	w, x, y, z := ver(b, 4, 0, 1, 0), ver(b, 3, 0, 2, 0), ver(b, 2, 0, 3, 0), ver(b, 1, 0, 4, 0)
	l := [][]api.Version{nil, {z, x}, {}, {w}, nil, {y}}
	wantJoined(t, "by column 0", []int{0}, l, 9, w, x, y, z)
	wantJoined(t, "by column 1, then 0", []int{1, 0}, l, 9, y, w, z, x)
	wantJoined(t, "by column 1, then names", []int{1}, l, 9, y, z, w, x)
	wantJoined(t, "by names", nil, l, 9, z, y, x, w)
}

// What was deleted at or before the mark goes, and nothing else: not what was not deleted, whatever the mark is.
func TestJoinMark(t *testing.T) {
	var all []api.Version
	for i, deleted := range []uint64{0, 1, 2, 3, 1 << 32, 1<<63 - 1, 1 << 63, math.MaxUint64 - 1, math.MaxUint64} {
		all = append(all, of(1, uint32(i), deleted))
	}
	for mark, left := range map[uint64][]int{
		0:                  {0, 1, 2, 3, 4, 5, 6, 7, 8},
		1:                  {0, 2, 3, 4, 5, 6, 7, 8},
		2:                  {0, 3, 4, 5, 6, 7, 8},
		3:                  {0, 4, 5, 6, 7, 8},
		4:                  {0, 4, 5, 6, 7, 8},
		1<<32 - 1:          {0, 4, 5, 6, 7, 8},
		1 << 32:            {0, 5, 6, 7, 8},
		1<<63 - 1:          {0, 6, 7, 8},
		1 << 63:            {0, 7, 8},
		math.MaxUint64 - 1: {0, 8},
		math.MaxUint64:     {0},
	} {
		var want []api.Version
		for _, i := range left {
			want = append(want, all[i])
		}
		wantJoined(t, "one list", nil, [][]api.Version{all}, mark, want...)
		wantJoined(t, "two lists", nil, [][]api.Version{all[5:], all[:5]}, mark, want...)
	}
	// It is Deleted that is asked, not the name's Epoch.
	wantJoined(t, "epochs below the mark", nil, [][]api.Version{{of(1, 0, 9), of(2, 0, 0), of(3, 0, 4)}}, 5, of(1, 0, 9), of(2, 0, 0))
}

// Of one name they keep the order of the lists; the lists' own order is not asked.
func TestJoinOneName(t *testing.T) {
	one, two := value.Int(1), value.Int(2)
	l := [][]api.Version{{of(3, 0, 9, one, two)}, {of(3, 0, 7, one, one), of(3, 0, 8, two)}, {of(2, 5, 5, one), of(3, 0, 6, one)}}
	wantJoined(t, "of one name", []int{0}, l, 0, of(2, 5, 5, one), of(3, 0, 9, one, two), of(3, 0, 7, one, one), of(3, 0, 6, one), of(3, 0, 8, two))
	wantJoined(t, "of one name", nil, l, 5, of(3, 0, 9, one, two), of(3, 0, 7, one, one), of(3, 0, 8, two), of(3, 0, 6, one))
	wantJoined(t, "twice the same", nil, [][]api.Version{{of(1, 0, 0)}, {of(1, 0, 0)}}, 5, of(1, 0, 0), of(1, 0, 0))
}

// Whatever is handed in is joined: what no container may have, by places that there are not.
func TestJoinTakesAll(t *testing.T) {
	odd := []api.Version{
		of(0, 0, 0), of(math.MaxUint64, math.MaxUint32, 0), of(5, 0, 5), of(5, 1, 2), of(1<<63, 0, math.MaxUint64),
		of(1, 0, 0, api.Value{Kind: -1}), of(1, 1, 0, api.Value{Kind: 99, Int: 3, Text: "x", Bool: true}),
		of(1, 2, 0, api.Value{Kind: api.KindText, Text: strings.Repeat("x", 1000)}), of(1, 3, 0, row(20, 5)...),
	}
	var many []api.Version
	for i := range api.MaxRows + 5 {
		many = append(many, of(uint64(i), 0, 0, value.Int(int64(-i))))
	}
	for _, sort := range [][]int{nil, {0}, {0, 0}, {19, 1}, {-1, 0}, {math.MinInt}, {math.MaxInt, 0, 20}} {
		l := [][]api.Version{odd, many, odd[3:]}
		for _, mark := range []uint64{0, 2, 5, math.MaxUint64} {
			if got := mover.Join(sort, l, mark); !alike(got, joined(sort, l, mark)) {
				t.Errorf("P12.1: whatever there is: Join(%v, .., %d): %v", sort, mark, got)
			}
		}
	}
}

func smallValue(r *rand.Rand) api.Value {
	return []api.Value{value.Null(), value.Bool(true), value.Int(-1), value.Int(2), value.Text(""), value.Text("a")}[r.IntN(6)]
}

func TestJoinModel(t *testing.T) {
	r := rand.New(rand.NewPCG(12, 1))
	for range 3000 {
		var l [][]api.Version
		for range r.IntN(5) {
			var list []api.Version
			for range r.IntN(9) {
				v := of(r.Uint64N(5), r.Uint32N(4), r.Uint64N(7))
				for range r.IntN(4) {
					v.Row = append(v.Row, smallValue(r))
				}
				list = append(list, v)
			}
			l = append(l, list)
		}
		sort, mark := r.Perm(4)[:r.IntN(5)], r.Uint64N(8)
		wantJoined(t, "any", sort, l, mark, joined(sort, l, mark)...)
		if t.Failed() {
			return
		}
	}
}

// R5: what is handed in is not changed, nor the room behind it; what is answered is new, row by row.
func TestJoinMemory(t *testing.T) {
	shared := append(row(1, 5), row(1, 6)...)
	list := []api.Version{of(3, 0, 0, shared[:1]...), of(2, 0, 0, shared[:1]...), of(1, 0, 4, shared[:1]...), of(9, 9, 9)}
	l := [][]api.Version{list[:3], list[:1], list[3:]}
	sort := []int{0, 7}
	was := deep(list)
	ask := func() []api.Version { return mover.Join(sort[:1], l[:2], 4) }
	first, second := ask(), ask()
	want := []api.Version{was[1], was[0], was[0]}
	wantVersions(t, "P12.1: rows that are shared", first, want...)
	if !alike(list, was) || !slices.Equal(sort, []int{0, 7}) || len(l[2]) != 1 || shared[1] != value.Int(6) {
		t.Error("R5: Join has changed what it was given:", list, sort, shared)
	}
	spoil(first)
	wantVersions(t, "R5: an answer is seen in another", second, want...)
	if !alike(list, was) || shared[1] != value.Int(6) {
		t.Error("R5: an answer is seen in what was handed in:", list, shared)
	}
	for i := range second {
		x := deep(second)
		spoilRow(second[i].Row)
		x[i] = second[i]
		wantVersions(t, "R5: two rows of one answer share memory", second, x...)
	}
	third := ask()
	spoilRow(shared)
	spoil(list)
	wantVersions(t, "R5: what was handed in is seen in an answer", third, want...)
}

// spoilRow writes over a row, and the spare room behind it.
func spoilRow(l []api.Value) {
	l = l[:cap(l)]
	for i := range l {
		l[i] = api.Value{Kind: api.KindText, Text: "spoilt"}
	}
}

// spoil writes over versions, their rows, and the spare room of both.
func spoil(l []api.Version) {
	l = l[:cap(l)]
	for i := range l {
		spoilRow(l[i].Row)
		l[i] = of(77, 77, 78)
	}
}
