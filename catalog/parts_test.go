package catalog_test

import (
	"math"
	"slices"
	"testing"

	"hayloft/api"
	"hayloft/catalog"
	"hayloft/rows"
	"hayloft/value"
)

func TestRow(t *testing.T) {
	null := value.Null()
	for _, k := range []struct {
		what    string
		columns []int
		row     []api.Value
		want    []api.Value
	}{
		{"all", []int{0, 1, 2}, ints(5, 6, 7), ints(5, 6, 7)},
		{"in the projection's order", []int{2, 0, 1}, ints(5, 6, 7), ints(7, 5, 6)},
		{"some", []int{1}, ints(5, 6, 7), ints(6)},
		{"none", nil, ints(5, 6, 7), nil},
		{"of no row", []int{1, 0}, nil, []api.Value{null, null}},
		{"of a short row", []int{2, 1, 0}, ints(5, 6), []api.Value{null, value.Int(6), value.Int(5)}},
		{"places that no row has", []int{-1, 0, 3, math.MinInt, math.MaxInt}, ints(5, 6, 7), []api.Value{null, value.Int(5), null, null, null}},
		{"a place twice", []int{1, 1, 1}, ints(5, 6), ints(6, 6, 6)},
		{"more than a table has", []int{11, 0}, ints(0, 1, 2, 3, 4, 5, 6, 7, 8, 9, 10, 11), ints(11, 0)},
		{"whatever values", []int{1, 0}, []api.Value{{Kind: 9, Text: "x"}, {Kind: api.KindInt, Bool: true}}, []api.Value{{Kind: api.KindInt, Bool: true}, {Kind: 9, Text: "x"}}},
	} {
		for _, others := range []api.Projection{{}, {Name: "p", Table: -1, Sort: []int{9, 9}, By: -7, Shift: 99}} {
			others.Columns = k.columns
			if l := catalog.Row(others, k.row); !slices.Equal(l, k.want) {
				t.Errorf("P13.3: Row, %s: %+v, want %+v", k.what, l, k.want)
			}
		}
	}
}

func TestSort(t *testing.T) {
	for _, k := range []struct {
		what                string
		columns, sort, want []int
	}{
		{"by nothing", []int{0, 1}, nil, nil},
		{"places in the table, and in the projection", []int{3, 0, 1}, []int{1, 3}, []int{2, 0}},
		{"by all", []int{4, 2, 7}, []int{7, 4, 2}, []int{2, 0, 1}},
		{"by one that is not there", []int{4, 2}, []int{2, 3, 4}, []int{1, 0, 0}},
		{"of nothing", nil, []int{2, 3}, []int{0, 0}},
		{"by one twice", []int{4, 2}, []int{2, 2}, []int{1, 1}},
		{"by any numbers", []int{-1, math.MaxInt, math.MinInt}, []int{math.MinInt, 0, math.MaxInt, -1}, []int{2, 0, 1, 0}},
	} {
		for _, others := range []api.Projection{{}, {Name: "p", Table: -1, By: -7, Shift: 99}} {
			others.Columns, others.Sort = k.columns, k.sort
			if l := catalog.Sort(others); !slices.Equal(l, k.want) {
				t.Errorf("P13.3: Sort, %s: %v, want %v", k.what, l, k.want)
			}
		}
	}
}

func TestWhere(t *testing.T) {
	c := town()
	seen := map[api.Segment]int{}
	for n := range int64(50) {
		row := ints(n, n+100, n+200, n+300)
		for proj, p := range c.Projs {
			at := catalog.Where(c, proj, row)
			if want := seg(proj, rows.Segment(row[p.By], 4)); at != want {
				t.Errorf("P13.3: Where(%d, %v): %v, want %v", proj, row, at, want)
			}
			seen[at]++
		}
	}
	if len(seen) != len(c.Projs)*c.Segments {
		t.Error("too few segments were seen:", len(seen))
	}
	for _, proj := range []int{-1, 7, math.MinInt, math.MaxInt} { // R10
		if at := catalog.Where(c, proj, ints(1, 2, 3)); at != (api.Segment{}) {
			t.Errorf("P13.3: Where(%d): %v", proj, at)
		}
	}
	null := rows.Segment(value.Null(), 4)
	for proj, p := range c.Projs {
		for many := range p.By + 1 {
			if at := catalog.Where(c, proj, ints(1, 2, 3, 4)[:many]); at != seg(proj, null) {
				t.Errorf("P13.3: Where(%d) of a short row: %v, want %v", proj, at, seg(proj, null))
			}
		}
	}
	wrong := []api.Value{{Kind: 9}, {Kind: 9}, {Kind: 9}, {Kind: 9}}
	if at := catalog.Where(c, 4, wrong); at != seg(4, 0) {
		t.Errorf("P13.3: Where of what is no value: %v", at)
	}
}

// The place of By is one of the table's row, not of the projection's.
func TestWhereAsksTheTablesPlace(t *testing.T) {
	c := town()
	c.Segments = 8
	unlike := 0
	for n := range int64(50) {
		row := ints(n, 2*n, 3*n+1)
		if at := catalog.Where(c, 1, row); at.Seg != rows.Segment(row[2], 8) {
			t.Errorf("P13.3: Where(1, %v): %v", row, at)
		}
		if rows.Segment(row[2], 8) != rows.Segment(row[0], 8) {
			unlike++
		}
	}
	if unlike < 10 {
		t.Error("too few rows tell the places from each other:", unlike)
	}
}

func TestParts(t *testing.T) {
	c := example()
	one := catalog.Full{Id: api.RowId{Epoch: 3, Number: 4}, Row: []api.Value{value.Int(7), value.Text("x")}}
	at := catalog.Where(c, 0, one.Row)
	in := []api.Insert{{At: at, Ver: api.Version{Id: one.Id, Row: one.Row}}}
	gone := []api.Erase{{At: at, Id: one.Id}}
	for _, k := range []struct {
		what            string
		inserts, erases []catalog.Full
		has             api.Part
	}{
		{"nothing", nil, nil, api.Part{}},
		{"an insert", []catalog.Full{one}, nil, api.Part{Inserts: in}},
		{"an erase", nil, []catalog.Full{one}, api.Part{Erases: gone}},
		{"both", []catalog.Full{one}, []catalog.Full{one}, api.Part{Inserts: in, Erases: gone}},
		{"one twice", []catalog.Full{one, one}, []catalog.Full{one, one}, api.Part{Inserts: slices.Concat(in, in), Erases: slices.Concat(gone, gone)}},
	} {
		want := make([]api.Part, 3)
		for _, node := range catalog.Nodes(c, at) {
			want[node] = k.has
		}
		wantParts(t, k.what, catalog.Parts(c, k.inserts, k.erases), want)
	}
}

// A row of a table comes to each projection of the table, as that has it, by its own column, to the nodes that its own shift names.
func TestPartsOfProjections(t *testing.T) {
	c := town()
	person := catalog.Full{Table: 0, Id: api.RowId{Number: 1}, Row: ints(10, 11, 12)}
	house := catalog.Full{Table: 1, Id: api.RowId{Number: 2}, Row: ints(20, 21, 22, 23)}
	street := catalog.Full{Table: 2, Id: api.RowId{Epoch: 9}, Row: ints(30)}
	want := make([]api.Part, 5)
	insert := func(f catalog.Full, proj int, by int64, row ...int64) {
		at := seg(proj, rows.Segment(value.Int(by), 4))
		for j := range 3 {
			node := (at.Seg + c.Projs[proj].Shift + j) % 5
			want[node].Inserts = append(want[node].Inserts, api.Insert{At: at, Ver: api.Version{Id: f.Id, Row: ints(row...)}})
		}
	}
	erase := func(f catalog.Full, proj int, by int64) {
		at := seg(proj, rows.Segment(value.Int(by), 4))
		for j := range 3 {
			node := (at.Seg + c.Projs[proj].Shift + j) % 5
			want[node].Erases = append(want[node].Erases, api.Erase{At: at, Id: f.Id})
		}
	}
	insert(house, 0, 20, 23, 20, 21)
	insert(house, 3, 22, 22)
	insert(person, 1, 12, 12, 11, 10)
	insert(person, 4, 11, 11)
	insert(street, 2, 30, 30)
	insert(street, 5, 30, 30)
	insert(street, 6, 30, 30)
	erase(street, 2, 30)
	erase(street, 5, 30)
	erase(street, 6, 30)
	erase(house, 0, 20)
	erase(house, 3, 22)
	wantParts(t, "in order", catalog.Parts(c, []catalog.Full{house, person, street}, []catalog.Full{street, house}), want)
}

// Rows of tables that there are not go nowhere; rows that are too short are filled with nulls; ones that are too long are cut.
func TestPartsOfWrongRows(t *testing.T) {
	c := least()
	id := api.RowId{Epoch: 1, Number: math.MaxUint32}
	for _, table := range []int{-1, 1, math.MinInt, math.MaxInt} {
		f := []catalog.Full{{Table: table, Id: id, Row: ints(1)}}
		wantParts(t, "no table", catalog.Parts(c, f, f), make([]api.Part, 1))
	}
	for _, k := range []struct{ row, want []api.Value }{
		{nil, []api.Value{value.Null()}},
		{ints(1, 2, 3), ints(1)},
		{[]api.Value{{Kind: -5, Text: "x"}}, []api.Value{{Kind: -5, Text: "x"}}},
	} {
		f := []catalog.Full{{Id: id, Row: k.row}}
		in := api.Insert{Ver: api.Version{Id: id, Row: k.want}}
		wantParts(t, "a wrong row", catalog.Parts(c, f, f), []api.Part{{Inserts: []api.Insert{in}, Erases: []api.Erase{{Id: id}}}})
	}
}
