package exec_test

import (
	"math"
	"slices"
	"testing"

	"hayloft/api"
	"hayloft/exec"
	"hayloft/value"
)

func wantSort(t *testing.T, what string, rows [][]api.Value, l []api.Order, want ...[]api.Value) {
	t.Helper()
	if is := exec.Sort(rows, l); !same(is, want) {
		t.Errorf("P15.4: Sort: %s: %v, want %v", what, is, want)
	}
}

func TestSort(t *testing.T) {
	rows := list(row(2, "a", 5), row(1, "b", 6), row(2, "b", 4), row(nil, "c", 1), row(1, "b", 3), row(2, "a"))
	wantSort(t, "by whole rows", rows, nil, row(nil, "c", 1), row(1, "b", 3), row(1, "b", 6), row(2, "a"), row(2, "a", 5), row(2, "b", 4))
	wantSort(t, "by the first", rows, []api.Order{{}}, row(nil, "c", 1), row(1, "b", 3), row(1, "b", 6), row(2, "a"), row(2, "a", 5), row(2, "b", 4))
	wantSort(t, "by the first, down", rows, []api.Order{{Down: true}}, row(2, "a"), row(2, "a", 5), row(2, "b", 4), row(1, "b", 3), row(1, "b", 6), row(nil, "c", 1))
	wantSort(t, "by two", rows, []api.Order{{Column: 1}, {Column: 2, Down: true}}, row(2, "a", 5), row(2, "a"), row(1, "b", 6), row(2, "b", 4), row(1, "b", 3), row(nil, "c", 1))
	wantSort(t, "by two, the first down", rows, []api.Order{{Column: 1, Down: true}, {Column: 0, Down: true}}, row(nil, "c", 1), row(2, "b", 4), row(1, "b", 3), row(1, "b", 6), row(2, "a"), row(2, "a", 5))
	wantSort(t, "the former counts", rows, []api.Order{{Column: 0}, {Column: 0, Down: true}, {Column: 2, Down: true}}, row(nil, "c", 1), row(1, "b", 6), row(1, "b", 3), row(2, "a", 5), row(2, "b", 4), row(2, "a"))
	wantSort(t, "no row", nil, []api.Order{{Down: true}})
	wantSort(t, "empty lists", list(), []api.Order{})
	wantSort(t, "spare rows", rows[:1], nil, rows[0])
	wantSort(t, "spare things to sort by", rows[:2], []api.Order{{Column: 1, Down: true}, {Down: true}}[:1], rows[1], rows[0])
}

// A place that a row has not holds a null: it is like another one, and below what is none.
func TestSortPlaces(t *testing.T) {
	rows := list(row(2, 1), row(1), row(1, nil, 7), row(), row(1, false))
	for _, down := range []bool{false, true} {
		for _, place := range append(ends(), 3) {
			wantSort(t, "no such place", rows, []api.Order{{Column: place, Down: down}}, row(), row(1), row(1, nil, 7), row(1, false), row(2, 1))
		}
	}
	wantSort(t, "short rows", rows, []api.Order{{Column: 1}}, row(), row(1), row(1, nil, 7), row(1, false), row(2, 1))
	wantSort(t, "short rows, down", rows, []api.Order{{Column: 1, Down: true}}, row(2, 1), row(1, false), row(), row(1), row(1, nil, 7))
	wantSort(t, "spare room", list(row(1, 2)[:1], row(1)), []api.Order{{Column: 1, Down: true}}, row(1), row(1))
}

// Every value in every turn: rising and falling, those that are alike in the order in which they came.
func TestSortEveryValue(t *testing.T) {
	values := everyValue()
	for turn := range values {
		l := slices.Concat(values[turn:], values[:turn])
		var rows, up, down [][]api.Value
		for _, v := range l {
			rows = append(rows, row(v))
			place, _ := slices.BinarySearchFunc(up, v, func(r []api.Value, v api.Value) int {
				if value.Compare(r[0], v) > 0 {
					return 1
				}
				return -1
			})
			up = slices.Insert(up, place, row(v))
			place, _ = slices.BinarySearchFunc(down, v, func(r []api.Value, v api.Value) int {
				if value.Compare(r[0], v) < 0 {
					return 1
				}
				return -1
			})
			down = slices.Insert(down, place, row(v))
		}
		wantSort(t, "every value", rows, nil, up...)
		wantSort(t, "every value", rows, []api.Order{{}}, up...)
		wantSort(t, "every value, down", rows, []api.Order{{Down: true}}, down...)
	}
}

// More rows than a sort of few moves one by one: those that are alike stay in order.
func TestSortMany(t *testing.T) {
	var rows [][]api.Value
	for i := range 300 {
		rows = append(rows, row(i%5, api.Value{Kind: api.KindBool, Int: int64(i)}))
	}
	for _, down := range []bool{false, true} {
		sorted := exec.Sort(rows, []api.Order{{Down: down}})
		for i, r := range sorted {
			group := i / 60
			if down {
				group = 4 - group
			}
			want := row(group, api.Value{Kind: api.KindBool, Int: int64(i%60*5 + group)})
			if !slices.Equal(r, want) {
				t.Fatalf("P15.4: Sort: row %d of many: %v, want %v", i, r, want)
			}
		}
	}
}

// More things to sort by than a query may have; and one that counts behind many that do not.
func TestSortByMany(t *testing.T) {
	l := slices.Repeat([]api.Order{{Column: math.MaxInt, Down: true}, {Column: -1}, {Column: 1}}, 20)
	wantSort(t, "by many", ones(1, 3, 2), append(l, api.Order{Down: true}), ones(3, 2, 1)...)
	wantSort(t, "by many", ones(1, 3, 2), l, ones(1, 2, 3)...)
}
