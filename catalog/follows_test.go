package catalog_test

import (
	"math"
	"math/rand/v2"
	"slices"
	"testing"

	"hayloft/api"
	"hayloft/catalog"
	"hayloft/rows"
	"hayloft/value"
)

// draw draws one of a list.
func draw[T any](r *rand.Rand, l ...T) T { return l[r.IntN(len(l))] }

// anyInt is mostly a small number, seldom one that is near an end.
func anyInt(r *rand.Rand, below int) int {
	if r.IntN(40) == 0 {
		return draw(r, -1, below, math.MinInt, math.MaxInt, math.MaxInt-1, math.MinInt+1, 1<<40)
	}
	return r.IntN(below)
}

// somePlaces are some columns of a table, seldom ones that can't be.
func somePlaces(r *rand.Rand, many, least int) []int {
	l := r.Perm(many)[:least+r.IntN(many-least+1)]
	if r.IntN(60) == 0 {
		l = append(l, anyInt(r, many))
	}
	return l
}

// someCatalog is one that Check may take or not.
func someCatalog(r *rand.Rand) api.Catalog {
	c := api.Catalog{Nodes: 1 + anyInt(r, 8), Segments: 1 + anyInt(r, 8)}
	c.K = anyInt(r, max(1, min(c.Nodes, 8)))
	for range 1 + r.IntN(3) {
		c.Tables = append(c.Tables, api.Table{Name: draw(r, "a", "b", "c", "d", "e", "f"), Columns: columns(1 + r.IntN(4))})
	}
	for i := range r.IntN(9) {
		p := api.Projection{Name: draw(r, "", "p", "q", "r", "s") + string(rune('a'+i)), Table: anyInt(r, len(c.Tables)), Shift: anyInt(r, max(1, min(c.Nodes, 8)))}
		many := 1
		if p.Table >= 0 && p.Table < len(c.Tables) {
			many = len(c.Tables[p.Table].Columns)
		}
		p.Columns = somePlaces(r, many, 1)
		p.Sort = slices.Clone(p.Columns[:r.IntN(len(p.Columns)+1)])
		p.By = p.Columns[r.IntN(len(p.Columns))]
		if r.IntN(60) == 0 {
			p.By = anyInt(r, many)
		}
		if r.IntN(60) == 0 {
			p.Sort = somePlaces(r, many, 0)
		}
		c.Projs = append(c.Projs, p)
	}
	return c
}

// checked is Check, as the chapter's words say it.
func checked(c api.Catalog) api.Errno {
	if c.Nodes < 1 || c.Nodes > 8 || c.K < 0 || c.K > c.Nodes-1 || c.Segments < 1 || c.Segments > 8 {
		return api.ErrCatalogNodes
	}
	names := map[string]int{}
	for _, t := range c.Tables {
		names[t.Name]++
		if value.Table(t) != api.OK || names[t.Name] == 2 {
			return api.ErrCatalogTable
		}
	}
	if len(c.Tables) < 1 || len(c.Tables) > 4 {
		return api.ErrCatalogTable
	}
	clear(names)
	for _, p := range c.Projs {
		names[p.Name]++
		if len(p.Name) < 1 || len(p.Name) > 64 || names[p.Name] == 2 || badPlaces(c, p) || p.Shift < 0 || p.Shift > c.Nodes-1 {
			return api.ErrCatalogProjection
		}
	}
	if len(c.Projs) > 8 {
		return api.ErrCatalogProjection
	}
	for table := range c.Tables {
		if !hasAll(c, table) {
			return api.ErrCatalogCover
		}
	}
	used := map[int]int{}
	for _, p := range c.Projs {
		for n := range c.Segments + c.K {
			used[(n+p.Shift)%c.Nodes]++
		}
	}
	if len(used) != c.Nodes {
		return api.ErrCatalogNodes
	}
	return api.OK
}

// badPlaces tells whether a projection's table, or one of its places, can't be.
func badPlaces(c api.Catalog, p api.Projection) bool {
	if p.Table < 0 || p.Table >= len(c.Tables) || len(p.Columns) == 0 {
		return true
	}
	among, sorted := map[int]int{}, map[int]int{}
	for _, n := range p.Columns {
		among[n]++
		if n < 0 || n >= len(c.Tables[p.Table].Columns) || among[n] == 2 {
			return true
		}
	}
	for _, n := range p.Sort {
		sorted[n]++
		if among[n] == 0 || sorted[n] == 2 {
			return true
		}
	}
	return among[p.By] == 0
}

// hasAll tells whether one projection of a table, or two, have all columns.
func hasAll(c api.Catalog, table int) bool {
	for _, p := range c.Projs {
		for _, q := range c.Projs {
			has := map[int]int{}
			for _, n := range slices.Concat(p.Columns, q.Columns) {
				has[n]++
			}
			if p.Table == table && q.Table == table && len(has) == len(c.Tables[table].Columns) {
				return true
			}
		}
	}
	return false
}

// laid is Parts, as the chapter's words say it.
func laid(c api.Catalog, inserts, erases []catalog.Full) []api.Part {
	parts := make([]api.Part, c.Nodes)
	lay := func(f catalog.Full, do func(part *api.Part, at api.Segment, row []api.Value)) {
		for proj, p := range c.Projs {
			if p.Table != f.Table {
				continue
			}
			get := func(n int) api.Value {
				if n < len(f.Row) {
					return f.Row[n]
				}
				return value.Null()
			}
			var row []api.Value
			for _, n := range p.Columns {
				row = append(row, get(n))
			}
			at := seg(proj, rows.Segment(get(p.By), c.Segments))
			for j := 0; j <= c.K; j++ {
				do(&parts[(at.Seg+p.Shift+j)%c.Nodes], at, row)
			}
		}
	}
	for _, f := range inserts {
		lay(f, func(part *api.Part, at api.Segment, row []api.Value) {
			part.Inserts = append(part.Inserts, api.Insert{At: at, Ver: api.Version{Id: f.Id, Row: row}})
		})
	}
	for _, f := range erases {
		lay(f, func(part *api.Part, at api.Segment, _ []api.Value) {
			part.Erases = append(part.Erases, api.Erase{At: at, Id: f.Id})
		})
	}
	return parts
}

// someFulls are rows, seldom of tables that there are not, or too short.
func someFulls(r *rand.Rand, c api.Catalog) []catalog.Full {
	l := make([]catalog.Full, r.IntN(8))
	for i := range l {
		l[i] = catalog.Full{Table: anyInt(r, len(c.Tables)), Id: api.RowId{Epoch: r.Uint64N(3), Number: r.Uint32N(9)}}
		for range draw(r, 1, 4, 4, 4, 6) {
			l[i].Row = append(l[i].Row, draw(r, value.Null(), value.Bool(true), value.Int(r.Int64N(30)), value.Text("x")))
		}
	}
	return l
}

// Whatever catalogs: Check says what the chapter says; those that it takes lay rows as the chapter says; and whatever it says, each call ends.
func TestAnyCatalogs(t *testing.T) {
	answers := map[api.Errno]int{}
	laidDown := 0
	for seed := range uint64(20000) {
		r := rand.New(rand.NewPCG(13, seed))
		c := someCatalog(r)
		want := checked(c)
		wantCheck(t, "any catalog", c, want)
		answers[want]++
		inserts, erases := someFulls(r, c), someFulls(r, c)
		if want != api.OK {
			callAll(c, inserts, erases)
			continue
		}
		wantParts(t, "any catalog", catalog.Parts(c, inserts, erases), laid(c, inserts, erases))
		laidDown += len(inserts)
		if t.Failed() {
			t.Fatalf("seed %d: %+v", seed, c)
		}
	}
	for _, e := range []api.Errno{api.OK, api.ErrCatalogNodes, api.ErrCatalogTable, api.ErrCatalogProjection, api.ErrCatalogCover} {
		if answers[e] < 500 {
			t.Errorf("too few catalogs with %d: %d", e, answers[e])
		}
	}
	if laidDown < 5000 {
		t.Error("too few rows:", laidDown)
	}
}

// callAll calls everything with numbers of all sizes.
func callAll(c api.Catalog, inserts, erases []catalog.Full) {
	numbers := []int{math.MinInt, -1, 0, 1, 7, 8, 9, math.MaxInt}
	catalog.Check(c)
	for range catalog.Segments(c) {
	}
	for _, x := range numbers {
		catalog.Of(c, x)
		catalog.Where(c, x, ints(1, 2))
		for _, y := range numbers {
			catalog.Nodes(c, seg(x, y))
		}
	}
	for _, p := range c.Projs {
		catalog.Row(p, ints(1, 2))
		catalog.Sort(p)
	}
	catalog.Covered(c, nil)
	catalog.Covered(c, make([]bool, 9))
	catalog.Covered(c, slices.Repeat([]bool{true}, 9))
	catalog.Parts(c, inserts, erases)
}

// R1: of a catalog with numbers that can't be, whichever, each call ends.
func TestWrongNumbersEnd(t *testing.T) {
	ends := []int{math.MinInt, -1, 0, 1, 2, 8, 9, math.MaxInt}
	fulls := []catalog.Full{{Row: ints(1, 2)}, {Table: -1}, {Table: math.MaxInt}}
	for _, nodes := range ends {
		for _, segments := range ends {
			for _, k := range ends {
				for _, n := range ends {
					c := example()
					c.Nodes, c.Segments, c.K = nodes, segments, k
					p := &c.Projs[0]
					p.Shift, p.By, p.Columns, p.Sort = n, n, []int{n, 0}, []int{n, n}
					callAll(c, fulls, fulls)
				}
			}
		}
	}
	callAll(api.Catalog{}, nil, nil)
	callAll(api.Catalog{Nodes: 3, Segments: 2}, fulls, fulls)
	many := example()
	many.Projs = make([]api.Projection, 1000)
	many.Tables = make([]api.Table, 1000)
	callAll(many, fulls, fulls)
}
