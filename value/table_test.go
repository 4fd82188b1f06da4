package value_test

import (
	"slices"
	"strconv"
	"strings"
	"testing"

	"hayloft/api"
	"hayloft/value"
)

// columns are n, all of ints, with names of their own.
func columns(n int) []api.Column {
	var l []api.Column
	for i := range n {
		l = append(l, api.Column{Name: "c" + strconv.Itoa(i), Kind: api.KindInt})
	}
	return l
}

func goodTables() []api.Table {
	return []api.Table{
		{Name: "t", Columns: columns(1)},
		{Name: "t", Columns: columns(api.MaxColumns)},
		{Name: long(api.MaxText), Columns: columns(2)},
		{Name: "\x00", Columns: []api.Column{{Name: long(api.MaxText), Kind: 1}, {Name: long(api.MaxText - 1), Kind: 3, Null: true}}},
		{Name: "a", Columns: []api.Column{{Name: "a", Kind: 1}, {Name: "A", Kind: 2}, {Name: "a ", Kind: 3}}}, // a column may be named as the table is
		{Name: "t", Columns: []api.Column{{Name: "a", Kind: 1, Null: true}, {Name: "\xff", Kind: 2, Null: true}}},
	}
}

func badTables() []api.Table {
	l := []api.Table{
		{},
		{Columns: columns(1)},
		{Name: long(api.MaxText + 1), Columns: columns(1)},
		{Name: strings.Repeat("é", api.MaxText/2+1), Columns: columns(1)},
		{Name: "t"},
		{Name: "t", Columns: []api.Column{}},
		{Name: "t", Columns: columns(api.MaxColumns + 1)},
		{Name: "t", Columns: columns(1000)},
		{Name: "t", Columns: []api.Column{{Kind: 2}}},
		{Name: "t", Columns: append(columns(2), api.Column{Kind: 2})},
		{Name: "t", Columns: append(columns(2), api.Column{Name: long(api.MaxText + 1), Kind: 2})},
		{Name: "t", Columns: append(columns(2), columns(1)...)},
		{Name: "t", Columns: []api.Column{{Name: "a", Kind: 2}, {Name: "a", Kind: 3}}}, // one name, though the kinds differ
		{Name: "t", Columns: []api.Column{{Name: "a", Kind: 2}, {Name: "a", Kind: 2, Null: true}}},
		{Name: "t", Columns: append(columns(api.MaxColumns-1), columns(1)...)},
		{Name: "t", Columns: []api.Column{{Name: "a"}}},
		{Name: "t", Columns: []api.Column{{Name: "a", Null: true}}},
		{Name: "t", Columns: append(columns(2), api.Column{Name: "a", Kind: api.KindNull, Null: true})},
	}
	for _, k := range strange {
		l = append(l, api.Table{Name: "t", Columns: append(columns(2), api.Column{Name: "a", Kind: k})})
	}
	return l
}

func TestTable(t *testing.T) {
	for _, x := range goodTables() {
		if e := value.Table(x); e != api.OK {
			t.Errorf("P2.4: %+v: %d", x, e)
		}
	}
	for _, x := range badTables() {
		if e := value.Table(x); e != api.ErrValueTable {
			t.Errorf("P2.4: %+v: %d", x, e)
		}
	}
}

func TestRow(t *testing.T) {
	x := api.Table{Name: "t", Columns: []api.Column{{Name: "a", Kind: 1}, {Name: "b", Kind: 2, Null: true}, {Name: "c", Kind: 3}}}
	good := []api.Value{value.Bool(true), value.Int(-7), value.Text(long(api.MaxText))}
	for i, row := range [][]api.Value{good, {value.Bool(false), value.Null(), value.Text("")}} {
		if e := value.Row(x, row); e != api.OK {
			t.Errorf("P2.4: row %d: %d", i, e)
		}
	}
	for i, row := range [][]api.Value{
		nil,
		{},
		good[:2],
		append(slices.Clone(good), value.Null()),
		append(slices.Clone(good), value.Int(1)),
		{value.Null(), good[1], good[2]},
		{good[0], good[1], value.Null()},
		{good[1], good[1], good[2]},
		{good[0], good[2], good[2]},
		{good[0], good[1], good[1]},
		{good[0], good[1], value.Text(long(api.MaxText + 1))},
		{good[0], {Int: 1}, good[2]}, // a null with a field that its kind does not name
		{good[0], {Kind: 2, Text: "a"}, good[2]},
		{{Kind: 9}, good[1], good[2]},
	} {
		if e := value.Row(x, row); e != api.ErrValueRow {
			t.Errorf("P2.4: wrong row %d: %d", i, e)
		}
	}
}

func TestRowOfOneColumn(t *testing.T) {
	for kind := 1; kind <= 3; kind++ {
		for _, null := range []bool{false, true} {
			c := api.Column{Name: "a", Kind: kind, Null: null}
			x := api.Table{Name: "t", Columns: []api.Column{c}}
			for _, v := range slices.Concat(values(), wrongs()) {
				want := api.OK
				if !value.Fits(c, v) {
					want = api.ErrValueRow
				}
				if e := value.Row(x, []api.Value{v}); e != want {
					t.Errorf("P2.4: %+v in %+v: %d", v, c, e)
				}
			}
		}
	}
}

// The table's error is told ahead of the row's, and of a row that would fit.
func TestRowOfNoTable(t *testing.T) {
	for _, x := range badTables() {
		row := make([]api.Value, len(x.Columns))
		for i, c := range x.Columns {
			row[i] = api.Value{Kind: c.Kind}
		}
		if e := value.Row(x, row); e != api.ErrValueTable {
			t.Errorf("P2.4: a row of %+v: %d", x, e)
		}
		if e := value.Row(x, append(row, api.Value{Kind: 9})); e != api.ErrValueTable {
			t.Errorf("P2.4: a wrong row of %+v: %d", x, e)
		}
	}
}

// What is spare behind a list's end is no part of it, and stays.
func TestTableSpare(t *testing.T) {
	l := append(columns(2), columns(2)...)
	x := api.Table{Name: "t", Columns: l[:2]}
	row := []api.Value{value.Int(1), value.Int(2), {Kind: 9}}
	keptColumns, keptRow := slices.Clone(l), slices.Clone(row)
	if value.Table(x) != api.OK || value.Row(x, row[:2]) != api.OK || value.Row(x, row) != api.ErrValueRow {
		t.Error("P2.4: what is spare")
	}
	if !slices.Equal(l, keptColumns) || !slices.Equal(row, keptRow) {
		t.Error("R5: an argument was changed")
	}
}
