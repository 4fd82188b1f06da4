package catalog_test

import (
	"slices"
	"testing"

	"hayloft/api"
	"hayloft/catalog"
	"hayloft/value"
)

// roomy is a catalog like another one, each list of which has spare room with something in it; room tells whether that still stands.
func roomy(c api.Catalog) (api.Catalog, func() bool) {
	var still []func() bool
	places := func(l []int) []int {
		all := append(slices.Clone(l), 77, 78)
		still = append(still, func() bool { return slices.Equal(all[len(l):], []int{77, 78}) })
		return all[:len(l)]
	}
	c = copyOf(c)
	for i, p := range c.Projs {
		c.Projs[i].Columns, c.Projs[i].Sort = places(p.Columns), places(p.Sort)
	}
	for i, t := range c.Tables {
		all := append(t.Columns, api.Column{Name: "spare"})
		still = append(still, func() bool { return all[len(all)-1] == api.Column{Name: "spare"} })
		c.Tables[i].Columns = all[:len(t.Columns)]
	}
	tables, projs := append(c.Tables, api.Table{Name: "spare"}), append(c.Projs, api.Projection{Name: "spare"})
	c.Tables, c.Projs = tables[:len(c.Tables)], projs[:len(c.Projs)]
	still = append(still, func() bool {
		return tables[len(tables)-1].Name == "spare" && projs[len(projs)-1].Name == "spare"
	})
	return c, func() bool { return !slices.ContainsFunc(still, func(is func() bool) bool { return !is() }) }
}

// R5: what is handed in is not changed, nor the spare room behind it.
func TestArgumentsStay(t *testing.T) {
	for what, was := range catalogs() {
		c, room := roomy(was)
		cells := ints(1, 2, 3, 4, 5, 6)
		rows := []catalog.Full{{Row: cells[:1]}, {Row: cells[1:3]}, {Row: cells[3:3]}, {Table: 1}}
		fulls, live := rows[:3], []bool{true, false, true, false}
		catalog.Check(c)
		for at := range catalog.Segments(c) {
			catalog.Nodes(c, at)
			catalog.Where(c, at.Proj, cells[:2])
		}
		for i, p := range c.Projs {
			catalog.Of(c, i)
			catalog.Row(p, cells[:2])
			catalog.Sort(p)
		}
		catalog.Covered(c, live[:3])
		catalog.Parts(c, fulls, fulls)
		if !sameCatalog(c, was) || !room() {
			t.Errorf("R5: %s is changed: %+v", what, c)
		}
		if !slices.Equal(cells, ints(1, 2, 3, 4, 5, 6)) || !slices.Equal(live, []bool{true, false, true, false}) {
			t.Errorf("R5: of %s: changed: %v, %v", what, cells, live)
		}
		if len(rows[0].Row) != 1 || len(rows[1].Row) != 2 || len(rows[2].Row) != 0 || rows[3].Table != 1 || rows[3].Row != nil {
			t.Errorf("R5: of %s: changed: %+v", what, rows)
		}
	}
}

// R5: a range over segments keeps nothing of the catalog that it was made of.
func TestSegmentsKeepsNothing(t *testing.T) {
	for what, c := range catalogs() {
		want := slices.Collect(catalog.Segments(c))
		all := catalog.Segments(c)
		var l []api.Segment
		for at := range all {
			l = append(l, at)
			clear(c.Projs)
			clear(c.Tables)
			c.Nodes, c.K, c.Segments = 1, 0, 1
		}
		if !slices.Equal(l, want) || !slices.Equal(slices.Collect(all), want) {
			t.Errorf("R5: Segments of %s shows what the catalog became: %v, want %v", what, l, want)
		}
	}
}

// spoil writes over a list and its spare room.
func spoil[T any](l []T, with T) {
	l = l[:cap(l)]
	for i := range l {
		l[i] = with
	}
}

// R5: what is answered is new each time, its spare room too.
func TestAnswersAreNew(t *testing.T) {
	c, room := roomy(town())
	row := ints(1, 2, 3, 4)
	for range 2 {
		for at := range catalog.Segments(c) {
			l, more := catalog.Nodes(c, at), catalog.Nodes(c, at)
			spoil(l, -9)
			if len(more) != 3 || slices.Contains(more, -9) {
				t.Errorf("R5: Nodes(%v): %v", at, more)
			}
		}
		for node := range c.Nodes {
			l, more := catalog.Of(c, node), catalog.Of(c, node)
			spoil(l, seg(-9, -9))
			if len(more) == 0 || slices.Contains(more, seg(-9, -9)) {
				t.Errorf("R5: Of(%d): %v", node, more)
			}
		}
		for _, p := range c.Projs {
			l, more := catalog.Row(p, row), catalog.Row(p, row)
			spoil(l, value.Int(-9))
			if len(more) != len(p.Columns) || slices.Contains(more, value.Int(-9)) {
				t.Errorf("R5: Row: %v", more)
			}
			s, also := catalog.Sort(p), catalog.Sort(p)
			spoil(s, -9)
			if len(also) != len(p.Sort) || slices.Contains(also, -9) {
				t.Errorf("R5: Sort: %v", also)
			}
		}
	}
	if !sameCatalog(c, town()) || !room() || !slices.Equal(row, ints(1, 2, 3, 4)) {
		t.Errorf("R5: an answer is seen in what was handed in: %+v, %v", c, row)
	}
}

// deep are parts that share no memory with others.
func deep(l []api.Part) []api.Part {
	l = slices.Clone(l)
	for i := range l {
		l[i].Inserts, l[i].Erases = slices.Clone(l[i].Inserts), slices.Clone(l[i].Erases)
		for j, in := range l[i].Inserts {
			l[i].Inserts[j].Ver.Row = slices.Clone(in.Ver.Row)
		}
	}
	return l
}

// R5: no two lists of parts share memory, in one answer or in two, nor with the rows that were handed in.
func TestPartsShareNothing(t *testing.T) {
	c := full()
	var fulls []catalog.Full
	for n := range int64(9) {
		fulls = append(fulls, catalog.Full{Table: int(n % 4), Id: api.RowId{Number: uint32(n)}, Row: ints(n, 1, 2, 3, 4, 5, 6, 7)})
	}
	first, second := catalog.Parts(c, fulls, fulls), catalog.Parts(c, fulls, fulls)
	want := deep(first)
	wantParts(t, "the same again", second, want)
	for node, p := range first {
		for i, in := range p.Inserts {
			spoil(in.Ver.Row, value.Int(-9))
			want[node].Inserts[i].Ver.Row = slices.Repeat([]api.Value{value.Int(-9)}, len(in.Ver.Row))
			wantParts(t, "R5: a row is written to", first, want)
		}
	}
	for node, p := range first {
		spoil(p.Inserts, api.Insert{})
		clear(want[node].Inserts)
		wantParts(t, "R5: inserts are written to", first, want)
		spoil(p.Erases, api.Erase{})
		clear(want[node].Erases)
		wantParts(t, "R5: erases are written to", first, want)
	}
	wantParts(t, "R5: the other answer", second, catalog.Parts(c, fulls, fulls))
	spoil(first, api.Part{})
	wantParts(t, "R5: the other answer", second, catalog.Parts(c, fulls, fulls))
	for n, f := range fulls {
		if !slices.Equal(f.Row, ints(int64(n), 1, 2, 3, 4, 5, 6, 7)) {
			t.Errorf("R5: a row that was handed in is changed: %v", f.Row)
		}
	}
	kept := deep(second)
	for _, f := range fulls {
		spoil(f.Row, value.Null())
	}
	spoil(fulls, catalog.Full{})
	wantParts(t, "R5: rows are written to", second, kept)
}
