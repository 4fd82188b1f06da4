package rosfile_test

import (
	"math"
	"math/rand/v2"
	"slices"
	"testing"

	"hayloft/api"
	"hayloft/rosfile"
	"hayloft/value"
)

// wantOrder wants that l, sorted, are its versions at these places.
func wantOrder(t *testing.T, why string, sort []int, l []api.Version, places ...int) {
	t.Helper()
	var want []api.Version
	for _, i := range places {
		want = append(want, l[i])
	}
	if got := rosfile.Sorted(sort, l); !alike(got, want) {
		t.Errorf("P8.1: %s: Sorted(%v, %+v): %+v, want %+v", why, sort, l, got, want)
	}
}

func TestSorted(t *testing.T) {
	a, b := value.Text("a"), value.Text("b")
	one, two := value.Int(1), value.Int(2)
	l := []api.Version{ver(9, 0, b, one), ver(8, 0, a, two), ver(7, 0, b, two), ver(6, 0, a, one)}
	wantOrder(t, "one column", []int{0}, l, 3, 1, 2, 0)
	wantOrder(t, "the other one", []int{1}, l, 3, 0, 2, 1)
	wantOrder(t, "both", []int{0, 1}, l, 3, 1, 0, 2)
	wantOrder(t, "both, the other way", []int{1, 0}, l, 3, 0, 1, 2)
	wantOrder(t, "one twice", []int{0, 0}, l, 3, 1, 2, 0)
	wantOrder(t, "none: by names", nil, l, 3, 2, 1, 0)
	wantOrder(t, "none: by names", []int{}, l, 3, 2, 1, 0)
	if got := rosfile.Sorted([]int{0}, nil); len(got) > 0 {
		t.Errorf("P8.1: of none: %+v", got)
	}
	if got := rosfile.Sorted(nil, []api.Version{}); len(got) > 0 {
		t.Errorf("P8.1: of none: %+v", got)
	}
}

func TestSortedByKinds(t *testing.T) {
	var l []api.Version
	for i, v := range list(value.Text(""), value.Int(math.MaxInt64), value.Int(-5), value.Bool(true), value.Null(), value.Bool(false), value.Text("\xff"), value.Text("ab"), value.Text("a")) {
		l = append(l, ver(1, uint32(i), v))
	}
	wantOrder(t, "kinds", []int{0}, l, 4, 5, 3, 2, 1, 0, 8, 7, 6)
}

// Rows that are alike stand by their names; the Epoch comes first, both have their whole breadth.
func TestSortedByNames(t *testing.T) {
	v := value.Int(7)
	l := []api.Version{
		ver(math.MaxUint64, 0, v), ver(2, math.MaxUint32, v), ver(1<<32, 1, v), ver(2, 1, v), ver(1<<63, 0, v), ver(1, 5, v), ver(2, 1<<31, v), ver(0, 9, v),
	}
	wantOrder(t, "names", []int{0}, l, 7, 5, 3, 6, 1, 2, 4, 0)
	wantOrder(t, "names", nil, l, 7, 5, 3, 6, 1, 2, 4, 0)
}

// Those of one name keep the order in which they were given, whatever else differs.
func TestSortedKeepsOrder(t *testing.T) {
	one, two := value.Int(1), value.Int(2)
	l := []api.Version{
		gone(9, 3, 0, one, two), gone(7, 3, 0, one, one), gone(8, 3, 0, one, two), ver(3, 0, two, two), ver(3, 0, one, one), gone(5, 2, 0, one, two),
	}
	wantOrder(t, "of one name", []int{0}, l, 5, 0, 1, 2, 4, 3)
	wantOrder(t, "of one name", nil, l, 5, 0, 1, 2, 3, 4)
	var many, want []api.Version
	for i := range 1000 {
		many = append(many, gone(uint64(1000-i), 1, 1, value.Int(int64(i%2)), value.Int(int64(i))))
	}
	for start := range 2 {
		for i := start; i < 1000; i += 2 {
			want = append(want, many[i])
		}
	}
	if got := rosfile.Sorted([]int{0}, many); !alike(got, want) {
		t.Errorf("P8.1: of one name: %+v", got)
	}
}

// A place that a row has not is a null there; in one row it may be, in another not.
func TestSortedNoPlace(t *testing.T) {
	l := []api.Version{
		ver(5, 0, value.Int(3), value.Bool(false)), ver(4, 0, value.Int(4)), ver(3, 0), ver(2, 0, value.Int(1), value.Null()), ver(1, 0, value.Int(2), value.Text("")),
	}
	wantOrder(t, "short rows", []int{1}, l, 3, 2, 1, 0, 4)
	wantOrder(t, "short rows", []int{0}, l, 2, 3, 4, 0, 1)
	wantOrder(t, "short rows", []int{1, 0}, l, 2, 3, 1, 0, 4)
	for _, place := range []int{-1, 2, 8, 256, math.MinInt, math.MaxInt} {
		wantOrder(t, "no such place", []int{place}, l, 4, 3, 2, 1, 0)
		wantOrder(t, "no such place", []int{place, 0}, l, 2, 3, 4, 0, 1)
		wantOrder(t, "no such place", []int{0, place}, l, 2, 3, 4, 0, 1)
	}
	// A short row is not below a longer one by its length: what it lacks is as a null.
	wantOrder(t, "null and nothing", []int{0, 1}, []api.Version{ver(2, 0, value.Int(1)), ver(1, 0, value.Int(1), value.Null())}, 1, 0)
}

// Sorted takes whatever there is: more than a container may have, and values that are not right.
func TestSortedTakesAll(t *testing.T) {
	var l []api.Version
	for i := range api.MaxRows + 5 {
		l = append(l, ver(uint64(i), 0, value.Int(int64(-i))))
	}
	got := rosfile.Sorted([]int{0}, l)
	slices.Reverse(l)
	if !alike(got, l) {
		t.Error("P8.1: many:", len(got))
	}
	wrong := wrongs()
	l = nil
	for i, v := range wrong {
		l = append(l, ver(uint64(len(wrong)-i), 0, v, value.Int(1), v, v, v, v, v, v, v, v))
	}
	for _, sort := range [][]int{nil, {0}, {1, 9}, {-1}} {
		if got := rosfile.Sorted(sort, l); !alike(got, ordered(sort, l)) {
			t.Errorf("P8.1: Sorted(%v, %+v): %+v", sort, l, got)
		}
	}
}

func TestSortedModel(t *testing.T) {
	r := rand.New(rand.NewPCG(8, 1))
	for range 2000 {
		columns := 1 + r.IntN(4)
		l := versionsOf(r, columns, r.IntN(30))
		for i := range l { // names twice, and rows that are cut
			if r.IntN(3) == 0 {
				l[i].Id = l[r.IntN(len(l))].Id
			}
			if r.IntN(4) == 0 {
				l[i].Row = l[i].Row[:r.IntN(columns+1)]
			}
		}
		sort := aSort(r, columns+1)
		if got := rosfile.Sorted(sort, l); !alike(got, ordered(sort, l)) {
			t.Fatalf("P8.1: Sorted(%v, %+v): %+v", sort, l, got)
		}
	}
}
