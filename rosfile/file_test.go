package rosfile_test

import (
	"iter"
	"math"
	"math/rand/v2"
	"slices"
	"testing"

	"hayloft/api"
	"hayloft/rosfile"
	"hayloft/value"
)

func TestFrom(t *testing.T) {
	var l []api.Version
	for i, row := range [][]api.Value{ // column 2 and, behind it, column 0 are its order
		{value.Int(7), value.Int(1), value.Null()},
		{value.Int(3), value.Int(9), value.Int(-1)},
		{value.Int(3), value.Int(0), value.Int(5)},
		{value.Int(4), value.Int(0), value.Int(5)},
		{value.Text(""), value.Int(0), value.Int(5)},
		{value.Int(1), value.Int(0), value.Int(6)},
	} {
		l = append(l, ver(uint64(9-i), 0, row...))
	}
	f := make1(t, 3, []int{2, 0}, l)
	null := value.Null()
	for i, k := range []struct {
		key  []api.Value
		from int
	}{
		{nil, 0}, {[]api.Value{}, 0},
		{list(null), 0}, {list(value.Bool(false)), 1}, {ints(math.MinInt64), 1}, {ints(-1), 1}, {ints(0), 2},
		{ints(5), 2}, {ints(6), 5}, {ints(7), 6}, {list(value.Text("")), 6},
		{list(null, null), 0}, {list(null, value.Int(7)), 0}, {list(null, value.Int(8)), 1},
		{ints(5, 3), 2}, {ints(5, 4), 3}, {ints(5, 5), 4}, {list(value.Int(5), null), 2}, {list(value.Int(5), value.Text("")), 4}, {list(value.Int(5), value.Text("a")), 5},
		{ints(6, 1), 5}, {ints(6, 2), 6}, {ints(-1, 3), 1}, {ints(-1, 4), 2},
		// A key with more values is above a row with the same ones.
		{ints(5, 3, 0), 3}, {list(value.Int(5), value.Int(3), null), 3}, {ints(5, 2, 9), 2}, {ints(6, 1, 0, 0, 0), 6}, {list(null, value.Int(7), null), 1},
		// Values that are not right have their place in the order too.
		{list(api.Value{Kind: -1}), 0}, {list(api.Value{Kind: 4}), 6}, {list(api.Value{Kind: 2, Int: 5, Text: "a", Bool: true}), 2}, {list(value.Text(long(500))), 6},
	} {
		if got := slices.Collect(f.From(k.key)); !alike(got, l[k.from:]) {
			t.Errorf("P8.4: case %d: From(%+v): %+v, want those from %d on", i, k.key, got, k.from)
		}
	}
}

// A container that is sorted by nothing: every key with a value is above all.
func TestFromUnsorted(t *testing.T) {
	l := []api.Version{ver(1, 0, value.Int(7)), ver(2, 0, value.Int(3))}
	f := make1(t, 1, nil, l)
	wantVersions(t, "From(none)", f.From(nil), l)
	wantVersions(t, "From(null)", f.From(list(value.Null())), nil)
	wantVersions(t, "From(0)", f.From(ints(0)), nil)
	empty := make1(t, 2, []int{1}, nil)
	wantVersions(t, "From(none)", empty.From(nil), nil)
	wantVersions(t, "From(0)", empty.From(ints(0)), nil)
}

// from is what From must give: all, from the first one on that is not below the key.
func from(sort []int, sorted []api.Version, key []api.Value) []api.Version {
	for i, v := range sorted {
		var of []api.Value
		for n, place := range sort {
			if n < len(key) {
				of = append(of, v.Row[place])
			}
		}
		if value.Rows(of, key) >= 0 {
			return sorted[i:]
		}
	}
	return nil
}

func TestFromModel(t *testing.T) {
	r := rand.New(rand.NewPCG(8, 9))
	for range 200 {
		columns := 1 + r.IntN(4)
		sort := aSort(r, columns)
		l := versionsOf(r, columns, r.IntN(150))
		f := make1(t, columns, sort, l)
		sorted := ordered(sort, l)
		for range 30 {
			var key []api.Value
			for range r.IntN(columns + 2) {
				key = append(key, smallValue(r))
			}
			if len(l) > 0 && r.IntN(2) == 0 { // one that is there, or nearly
				for i, place := range sort {
					if i < len(key) {
						key[i] = l[r.IntN(1+r.IntN(len(l)))].Row[place]
					}
				}
			}
			wantVersions(t, "From", f.From(key), from(sort, sorted, key))
		}
	}
}

func TestColumn(t *testing.T) {
	f := make1(t, 2, []int{1}, []api.Version{ver(1, 0, value.Text("x"), value.Int(2)), ver(2, 0, value.Null(), value.Int(1))})
	if got := slices.Collect(f.Column(0)); !slices.Equal(got, list(value.Null(), value.Text("x"))) {
		t.Errorf("P8.4: %+v", got)
	}
	if got := slices.Collect(f.Column(1)); !slices.Equal(got, ints(1, 2)) {
		t.Errorf("P8.4: %+v", got)
	}
	for _, n := range []int{-1, 2, 3, 4, 5, 8, 256, 1 << 32, math.MinInt, math.MaxInt} { // 2 to 4 stand in the file, and are none of its rows'
		for v := range f.Column(n) {
			t.Errorf("P8.4: Column(%d): %+v", n, v)
		}
	}
	empty := make1(t, 1, nil, nil)
	for n := -1; n < 4; n++ {
		for v := range empty.Column(n) {
			t.Errorf("P8.4: of none: %+v", v)
		}
	}
}

func TestFind(t *testing.T) {
	l := []api.Version{
		ver(3, 0, value.Int(1)), ver(3, math.MaxUint32, value.Int(2)), gone(math.MaxInt64, 1, 1, value.Int(3)), ver(math.MaxInt64, 7, value.Int(4)), ver(1, 0, value.Int(5)),
	}
	f := make1(t, 1, []int{0}, l)
	for i, v := range l {
		if place, ok := f.Find(v.Id); place != i || !ok {
			t.Errorf("P8.4: Find(%v): %d, %v", v.Id, place, ok)
		}
	}
	for _, id := range []api.RowId{{}, {Epoch: 1, Number: 2}, {Epoch: 2}, {Epoch: 3, Number: 1}, {Number: 1}, {Epoch: math.MaxUint64}, {Epoch: math.MaxInt64}, {Epoch: math.MaxInt64, Number: 8}} {
		if place, ok := f.Find(id); place != 0 || ok {
			t.Errorf("P8.4: Find(%v): %d, %v", id, place, ok)
		}
		if place, ok := make1(t, 1, nil, nil).Find(id); place != 0 || ok {
			t.Errorf("P8.4: Find(%v) in none: %d, %v", id, place, ok)
		}
	}
}

func TestEpochs(t *testing.T) {
	for _, k := range []struct {
		came            []uint64
		least, greatest uint64
	}{
		{nil, 0, 0}, {[]uint64{5}, 5, 5}, {[]uint64{5, 2}, 2, 5}, {[]uint64{7, 9, 8, 7}, 7, 9}, {[]uint64{math.MaxInt64, 1}, 1, math.MaxInt64}, {[]uint64{1 << 40, 1 << 33}, 1 << 33, 1 << 40},
	} {
		var l []api.Version
		for i, epoch := range k.came { // in an order that is not that of the epochs
			v := ver(epoch, uint32(i), value.Int(int64(i)))
			if epoch < 100 {
				v.Deleted = 100 // what was deleted is not asked
			}
			l = append(l, v)
		}
		if a, z := make1(t, 1, []int{0}, l).Epochs(); a != k.least || z != k.greatest {
			t.Errorf("P8.4: %v: %d, %d", k.came, a, z)
		}
	}
}

// Every range may be left, and gone over again.
func TestRangesAreLeft(t *testing.T) {
	l := ordered([]int{0}, versionsOf(rand.New(rand.NewPCG(8, 10)), 2, 70))
	f := make1(t, 2, []int{0}, l)
	values := cells(2, l)[1]
	half := l[35:]
	for half[0].Row[0] == l[len(l)-len(half)-1].Row[0] { // From begins at the first of those that are alike
		half = l[len(l)-len(half)-1:]
	}
	all, rest, column := f.All(), f.From(half[0].Row[:1]), f.Column(1)
	for often := range 72 {
		for what, seq := range map[string]iter.Seq[api.Version]{"All": all, "From": rest} {
			want := l
			if what == "From" {
				want = half
			}
			var got []api.Version
			for v := range seq {
				if len(got) == often {
					break
				}
				got = append(got, v)
			}
			if !alike(got, want[:min(often, len(want))]) {
				t.Errorf("R11: %s left behind %d: %+v", what, often, got)
			}
		}
		var got []api.Value
		for v := range column {
			if len(got) == often {
				break
			}
			got = append(got, v)
		}
		if !slices.Equal(got, values[:min(often, len(values))]) {
			t.Errorf("R11: Column left behind %d: %+v", often, got)
		}
	}
	for v := range all { // one range within another
		wantVersions(t, "All within All", all, l)
		if v.Id == l[3].Id {
			break
		}
	}
}

// What one file is told does not show at another one of the same bytes.
func TestFilesAreApart(t *testing.T) {
	l := ordered([]int{0}, versionsOf(rand.New(rand.NewPCG(8, 11)), 1, 10))
	b := write(t, 1, []int{0}, nil, l)
	var files []*rosfile.File
	for range 3 {
		files = append(files, read(t, b))
	}
	for v := range files[1].All() {
		v.Row[0] = value.Text("other")
	}
	files[1].Sort()[0] = 7
	for _, f := range files {
		wantFile(t, f, 1, []int{0}, l)
	}
}
