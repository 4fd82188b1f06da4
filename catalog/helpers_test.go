package catalog_test

import (
	"slices"
	"strings"
	"testing"

	"hayloft/api"
	"hayloft/catalog"
	"hayloft/value"
)

// example is the chapter's catalog.
func example() api.Catalog {
	return api.Catalog{
		Nodes: 3, K: 1, Segments: 2,
		Tables: []api.Table{{Name: "t", Columns: []api.Column{{Name: "a", Kind: api.KindInt}, {Name: "b", Kind: api.KindText}}}},
		Projs:  []api.Projection{{Name: "p", Columns: []int{0, 1}, Sort: []int{1}, By: 0, Shift: 2}},
	}
}

// town has three tables on five nodes: the first whole in one projection and in part in another, the second in two parts, the third of one column in three projections.
func town() api.Catalog {
	return api.Catalog{
		Nodes: 5, K: 2, Segments: 4,
		Tables: []api.Table{
			{Name: "people", Columns: columns(3)},
			{Name: "houses", Columns: columns(4)},
			{Name: "streets", Columns: columns(1)},
		},
		Projs: []api.Projection{
			{Name: "a", Table: 1, Columns: []int{3, 0, 1}, Sort: []int{1, 3}, By: 0, Shift: 4},
			{Name: "b", Table: 0, Columns: []int{2, 1, 0}, Sort: []int{0}, By: 2, Shift: 0},
			{Name: "c", Table: 2, Columns: []int{0}, By: 0, Shift: 1},
			{Name: "d", Table: 1, Columns: []int{2}, Sort: []int{2}, By: 2, Shift: 2},
			{Name: "e", Table: 0, Columns: []int{1}, By: 1, Shift: 3},
			{Name: "f", Table: 2, Columns: []int{0}, Sort: []int{0}, By: 0, Shift: 1},
			{Name: "g", Table: 2, Columns: []int{0}, By: 0, Shift: 4},
		},
	}
}

// full has as many tables, projections, columns, nodes and segments as there may be, and names as long.
func full() api.Catalog {
	c := api.Catalog{Nodes: api.MaxNodes, K: api.MaxNodes - 1, Segments: api.MaxNodes}
	for i := range api.MaxTables {
		c.Tables = append(c.Tables, api.Table{Name: long("t", i), Columns: columns(api.MaxColumns)})
	}
	for i := range api.MaxProjs {
		all := []int{7, 6, 5, 4, 3, 2, 1, 0}
		c.Projs = append(c.Projs, api.Projection{Name: long("p", i), Table: i % api.MaxTables, Columns: all, Sort: all, By: i, Shift: i})
	}
	return c
}

// least has as little as there may be.
func least() api.Catalog {
	return api.Catalog{
		Nodes: 1, Segments: 1,
		Tables: []api.Table{{Name: "t", Columns: columns(1)}},
		Projs:  []api.Projection{{Name: "p", Columns: []int{0}}},
	}
}

// catalogs are some that Check takes.
func catalogs() map[string]api.Catalog {
	return map[string]api.Catalog{"example": example(), "town": town(), "full": full(), "least": least()}
}

// long is a name of MaxText bytes, the last of which is a number's.
func long(s string, n int) string {
	return strings.Repeat(s, api.MaxText-1) + string(rune('0'+n))
}

// columns are so many, of ints and nulls.
func columns(many int) []api.Column {
	var l []api.Column
	for i := range many {
		l = append(l, api.Column{Name: string(rune('a' + i)), Kind: api.KindInt, Null: true})
	}
	return l
}

// copyOf is a copy that shares no list.
func copyOf(c api.Catalog) api.Catalog {
	c.Tables = slices.Clone(c.Tables)
	for i, t := range c.Tables {
		c.Tables[i].Columns = slices.Clone(t.Columns)
	}
	c.Projs = slices.Clone(c.Projs)
	for i, p := range c.Projs {
		c.Projs[i].Columns = slices.Clone(p.Columns)
		c.Projs[i].Sort = slices.Clone(p.Sort)
	}
	return c
}

// sameCatalog tells whether two catalogs say the same.
func sameCatalog(x, y api.Catalog) bool {
	return x.Nodes == y.Nodes && x.K == y.K && x.Segments == y.Segments && slices.EqualFunc(x.Tables, y.Tables, func(x, y api.Table) bool {
		return x.Name == y.Name && slices.Equal(x.Columns, y.Columns)
	}) && slices.EqualFunc(x.Projs, y.Projs, func(x, y api.Projection) bool {
		return x.Name == y.Name && x.Table == y.Table && slices.Equal(x.Columns, y.Columns) && slices.Equal(x.Sort, y.Sort) && x.By == y.By && x.Shift == y.Shift
	})
}

func ints(l ...int64) []api.Value {
	var out []api.Value
	for _, n := range l {
		out = append(out, value.Int(n))
	}
	return out
}

func seg(proj, n int) api.Segment { return api.Segment{Proj: proj, Seg: n} }

func wantCheck(t *testing.T, what string, c api.Catalog, want api.Errno) {
	t.Helper()
	if e := catalog.Check(c); e != want {
		t.Errorf("P13.1: %s: %d, want %d", what, e, want)
	}
}

func wantNodes(t *testing.T, c api.Catalog, at api.Segment, want ...int) {
	t.Helper()
	if l := catalog.Nodes(c, at); !slices.Equal(l, want) {
		t.Errorf("P13.2: Nodes(%v): %v, want %v", at, l, want)
	}
}

func wantOf(t *testing.T, c api.Catalog, node int, want ...api.Segment) {
	t.Helper()
	if l := catalog.Of(c, node); !slices.Equal(l, want) {
		t.Errorf("P13.2: Of(%d): %v, want %v", node, l, want)
	}
}

func wantCovered(t *testing.T, c api.Catalog, want bool, live ...bool) {
	t.Helper()
	if is := catalog.Covered(c, live); is != want {
		t.Errorf("P13.2: Covered(%v): %v, want %v", live, is, want)
	}
}

func samePart(x, y api.Part) bool {
	return slices.EqualFunc(x.Inserts, y.Inserts, func(x, y api.Insert) bool {
		return x.At == y.At && x.Ver.Id == y.Ver.Id && x.Ver.Deleted == y.Ver.Deleted && slices.Equal(x.Ver.Row, y.Ver.Row)
	}) && slices.Equal(x.Erases, y.Erases)
}

func wantParts(t *testing.T, what string, got, want []api.Part) {
	t.Helper()
	if len(got) != len(want) {
		t.Errorf("P13.4: %s: %d parts, want %d", what, len(got), len(want))
		return
	}
	for node := range want {
		if !samePart(got[node], want[node]) {
			t.Errorf("P13.4: %s: node %d: %+v, want %+v", what, node, got[node], want[node])
		}
	}
}
