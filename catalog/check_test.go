package catalog_test

import (
	"math"
	"strings"
	"testing"

	"hayloft/api"
)

func TestCheckTakes(t *testing.T) {
	for what, c := range catalogs() {
		wantCheck(t, what, c, api.OK)
	}
	c := example()
	c.Projs[0].Sort = nil
	wantCheck(t, "sorted by nothing", c, api.OK)
	c.Projs[0].Sort = []int{1, 0}
	wantCheck(t, "sorted by all", c, api.OK)
	c.Projs[0].Name = c.Tables[0].Name
	wantCheck(t, "a projection has a table's name", c, api.OK)
	c.Projs[0].Name = "\x00\xff"
	wantCheck(t, "whatever bytes of a name", c, api.OK)
}

// turn makes something of a catalog otherwise.
type turn struct {
	what string
	of   func(c *api.Catalog)
}

// badNumbers are ways in which town can't be, for its numbers.
func badNumbers() []turn {
	var l []turn
	for _, n := range []int{0, -1, api.MaxNodes + 1, math.MinInt, math.MaxInt} {
		l = append(l, turn{"Nodes", func(c *api.Catalog) { c.Nodes = n }}, turn{"Segments", func(c *api.Catalog) { c.Segments = n }})
	}
	for _, n := range []int{-1, 5, 6, math.MinInt, math.MaxInt} {
		l = append(l, turn{"K", func(c *api.Catalog) { c.K = n }})
	}
	return l
}

// badTables are ways in which town can't be, for its tables.
func badTables() []turn {
	l := []turn{
		{"no tables", func(c *api.Catalog) { c.Tables = nil }},
		{"too many tables", func(c *api.Catalog) {
			for i := range api.MaxTables - 2 {
				c.Tables = append(c.Tables, api.Table{Name: long("x", i), Columns: columns(1)})
			}
		}},
	}
	for i := range 3 {
		l = append(l,
			turn{"a table without a name", func(c *api.Catalog) { c.Tables[i].Name = "" }},
			turn{"a table's name is too long", func(c *api.Catalog) { c.Tables[i].Name = long("x", 1) + "y" }},
			turn{"a table without columns", func(c *api.Catalog) { c.Tables[i].Columns = nil }},
			turn{"too many columns", func(c *api.Catalog) { c.Tables[i].Columns = columns(api.MaxColumns + 1) }},
			turn{"a column's kind", func(c *api.Catalog) { c.Tables[i].Columns[0].Kind = api.KindNull }},
			turn{"a column's name", func(c *api.Catalog) { c.Tables[i].Columns[0].Name = "" }},
			turn{"a table's name twice", func(c *api.Catalog) { c.Tables[i].Name = c.Tables[(i+1)%3].Name }})
	}
	return l
}

// badProjections are ways in which town can't be, for its projections.
func badProjections() []turn {
	l := []turn{
		{"too many projections", func(c *api.Catalog) {
			for i := range api.MaxProjs - 6 {
				c.Projs = append(c.Projs, api.Projection{Name: long("x", i), Table: 2, Columns: []int{0}})
			}
		}},
		{"sorted by a column of the table's alone", func(c *api.Catalog) { c.Projs[0].Sort = []int{1, 2} }},
		{"cut by a column of the table's alone", func(c *api.Catalog) { c.Projs[0].By = 2 }},
		{"sorted by another column than its own", func(c *api.Catalog) { c.Projs[4].Sort = []int{0} }},
		{"cut by another column than its own", func(c *api.Catalog) { c.Projs[4].By = 0 }},
	}
	for i := range 7 {
		for _, b := range badProjection(len(town().Tables[town().Projs[i].Table].Columns)) {
			l = append(l, turn{b.what, func(c *api.Catalog) { b.of(c, &c.Projs[i]) }})
		}
		l = append(l, turn{"a projection's name twice", func(c *api.Catalog) { c.Projs[i].Name = c.Projs[(i+3)%7].Name }})
	}
	return l
}

// turnOne makes something of a projection otherwise.
type turnOne struct {
	what string
	of   func(c *api.Catalog, p *api.Projection)
}

// badProjection are ways in which a projection of a table of so many columns can't be, whatever others there are.
func badProjection(many int) []turnOne {
	l := []turnOne{
		{"a projection without a name", func(c *api.Catalog, p *api.Projection) { p.Name = "" }},
		{"a projection's name is too long", func(c *api.Catalog, p *api.Projection) { p.Name = strings.Repeat("x", api.MaxText+1) }},
		{"without columns", func(c *api.Catalog, p *api.Projection) { p.Columns, p.Sort = nil, nil }},
		{"a column twice", func(c *api.Catalog, p *api.Projection) { p.Columns = append(p.Columns, p.Columns[0]) }},
		{"a sort column twice", func(c *api.Catalog, p *api.Projection) { p.Sort = []int{p.By, p.By} }},
	}
	for _, n := range []int{-1, 3, math.MinInt, math.MaxInt} {
		l = append(l, turnOne{"a table that there is not", func(c *api.Catalog, p *api.Projection) { p.Table = n }})
	}
	for _, n := range []int{-1, 5, math.MinInt, math.MaxInt} {
		l = append(l, turnOne{"a shift that may not be", func(c *api.Catalog, p *api.Projection) { p.Shift = n }})
	}
	for _, n := range []int{-1, many, math.MinInt, math.MaxInt} {
		l = append(l,
			turnOne{"a column that there is not", func(c *api.Catalog, p *api.Projection) { p.Columns = append(p.Columns, n) }},
			turnOne{"a sort column that there is not", func(c *api.Catalog, p *api.Projection) { p.Sort = append(p.Sort, n) }},
			turnOne{"a column to cut by that there is not", func(c *api.Catalog, p *api.Projection) { p.By = n }},
			turnOne{"a column that there is not, sorted and cut by", func(c *api.Catalog, p *api.Projection) {
				p.Columns, p.Sort, p.By = append(p.Columns, n), append(p.Sort, n), n
			}})
	}
	return l
}

// badCover are ways in which the projections of town do not have all that its tables have.
func badCover() []turn {
	return []turn{
		{"no projections", func(c *api.Catalog) { c.Projs = nil }},
		{"the second table has one part alone", func(c *api.Catalog) { c.Projs[3].Table = 0 }},
		{"the third table has no projection", func(c *api.Catalog) { c.Projs[2].Table, c.Projs[5].Table, c.Projs[6].Table = 0, 1, 1 }},
		{"the first table has a part alone", func(c *api.Catalog) { c.Projs[1].Columns, c.Projs[1].Sort = []int{2, 1}, nil }},
		{"the first table has two parts, not all", func(c *api.Catalog) { c.Projs[1].Columns, c.Projs[1].By = []int{0}, 0 }},
		{"three parts have all columns, no two do", func(c *api.Catalog) {
			c.Projs[0].Columns, c.Projs[0].Sort = []int{0, 1}, nil
			c.Projs[5] = api.Projection{Name: "f", Table: 1, Columns: []int{3}, By: 3}
		}},
	}
}

// wantRefused wants that each turn of town is refused with an error.
func wantRefused(t *testing.T, l []turn, want api.Errno) {
	t.Helper()
	for _, r := range l {
		c := town()
		r.of(&c)
		wantCheck(t, r.what, c, want)
	}
}

func TestCheckRefuses(t *testing.T) {
	wantRefused(t, badNumbers(), api.ErrCatalogNodes)
	wantRefused(t, badTables(), api.ErrCatalogTable)
	wantRefused(t, badProjections(), api.ErrCatalogProjection)
	wantRefused(t, badCover(), api.ErrCatalogCover)
}

// both are two lists of turns, each one of the first ahead of each one of the second.
func both(first, second []turn) []turn {
	var l []turn
	for _, x := range first {
		for _, y := range second {
			l = append(l, turn{x.what + ", " + y.what, func(c *api.Catalog) { x.of(c); y.of(c) }})
		}
	}
	return l
}

// R2: where several errors apply it is the one that is named first.
func TestCheckOrder(t *testing.T) {
	wantRefused(t, both(badTables(), badNumbers()), api.ErrCatalogNodes)
	wantRefused(t, both(badProjections(), badNumbers()), api.ErrCatalogNodes)
	wantRefused(t, both(badCover(), badNumbers()), api.ErrCatalogNodes)
	wantRefused(t, both(badProjections(), badTables()), api.ErrCatalogTable)
	wantRefused(t, both(badCover(), badTables()), api.ErrCatalogTable)
	idle := []turn{{"a node has nothing", func(c *api.Catalog) { c.K, c.Segments, c.Nodes = 0, 1, api.MaxNodes }}}
	wantRefused(t, idle, api.ErrCatalogNodes)
	wantRefused(t, both(idle, badTables()), api.ErrCatalogTable)
	wantRefused(t, both(idle, badCover()), api.ErrCatalogCover)
	name := []turn{{"a projection's name", func(c *api.Catalog) { c.Projs[6].Name = "" }}}
	wantRefused(t, both(idle, name), api.ErrCatalogProjection)
	wantRefused(t, both(badCover()[1:], name), api.ErrCatalogProjection)
}

// A table's columns are asked of the projections of that table, whatever others have.
func TestCheckCover(t *testing.T) {
	c := town()
	c.Projs[3] = api.Projection{Name: "d", Table: 0, Columns: []int{2}, By: 2}
	wantCheck(t, "another table's projection has what is lacking", c, api.ErrCatalogCover)
	for x := range 8 {
		for y := range 8 {
			for z := range 8 {
				c := api.Catalog{Nodes: 1, Segments: 1, Tables: []api.Table{{Name: "t", Columns: columns(3)}}}
				for i, bits := range []int{x, y, z} {
					p := api.Projection{Name: long("p", i)}
					for place := range 3 {
						if bits>>place&1 == 1 {
							p.Columns, p.By = append(p.Columns, place), place
						}
					}
					if bits != 0 {
						c.Projs = append(c.Projs, p)
					}
				}
				want := api.ErrCatalogCover
				if x|y == 7 || y|z == 7 || x|z == 7 {
					want = api.OK
				}
				wantCheck(t, "three projections", c, want)
			}
		}
	}
}

// A node must have a copy of some segment: of one projection there are Segments + K nodes that have one.
func TestCheckEachNodeIsUsed(t *testing.T) {
	taken, refused := 0, 0
	for nodes := 1; nodes <= api.MaxNodes; nodes++ {
		for segments := 1; segments <= api.MaxNodes; segments++ {
			for k := range nodes {
				for shift := range nodes {
					c := least()
					c.Nodes, c.Segments, c.K, c.Projs[0].Shift = nodes, segments, k, shift
					want := api.OK
					if segments+k < nodes {
						want = api.ErrCatalogNodes
						refused++
					} else {
						taken++
					}
					wantCheck(t, "one projection", c, want)
				}
			}
		}
	}
	if taken < 100 || refused < 100 {
		t.Error("too few were taken, or refused:", taken, refused)
	}
	c := least()
	c.Nodes = 2
	wantCheck(t, "node 1 is not used", c, api.ErrCatalogNodes)
	c.Projs = append(c.Projs, api.Projection{Name: "q", Columns: []int{0}, Shift: 1})
	wantCheck(t, "another projection uses it", c, api.OK)
	c.Projs[0].Shift = 1
	wantCheck(t, "node 0 is not used", c, api.ErrCatalogNodes)
}
