package catalog

import (
	"slices"

	"hayloft/api"
	"hayloft/value"
)

// Check tells whether a catalog may be. Each question leans on the answers to those ahead of it.
func Check(c api.Catalog) api.Errno {
	switch {
	case !counted(c):
		return api.ErrCatalogNodes
	case !tablesMay(c.Tables):
		return api.ErrCatalogTable
	case !projectionsMay(c):
		return api.ErrCatalogProjection
	case !allCovered(c):
		return api.ErrCatalogCover
	case !allUsed(c):
		return api.ErrCatalogNodes
	}
	return api.OK
}

// counted tells whether nodes, copies and segments are so many as they may be. The other calls ask it too: of numbers without bound they would not end.
func counted(c api.Catalog) bool {
	return 1 <= c.Nodes && c.Nodes <= api.MaxNodes && within(c.K, c.Nodes) && 1 <= c.Segments && c.Segments <= api.MaxNodes
}

func tablesMay(l []api.Table) bool {
	if len(l) == 0 || len(l) > api.MaxTables {
		return false
	}
	for i, t := range l {
		namesake := func(earlier api.Table) bool { return earlier.Name == t.Name }
		if value.Table(t) != api.OK || slices.ContainsFunc(l[:i], namesake) {
			return false
		}
	}
	return true
}

func projectionsMay(c api.Catalog) bool {
	if len(c.Projs) > api.MaxProjs {
		return false
	}
	for i, p := range c.Projs {
		namesake := func(earlier api.Projection) bool { return earlier.Name == p.Name }
		if !projectionMay(c, p) || slices.ContainsFunc(c.Projs[:i], namesake) {
			return false
		}
	}
	return true
}

// projectionMay tells whether a projection may be, whatever others there are.
func projectionMay(c api.Catalog, p api.Projection) bool {
	if len(p.Name) == 0 || len(p.Name) > api.MaxText || !within(p.Table, len(c.Tables)) || !within(p.Shift, c.Nodes) {
		return false
	}
	many := len(c.Tables[p.Table].Columns)
	return len(p.Columns) > 0 && placesMay(p.Columns, many) && placesMay(p.Sort, many) && columnsHave(p, p.Sort) && columnsHave(p, []int{p.By})
}

// placesMay tells whether all of some places are among so many, none of them twice.
func placesMay(places []int, many int) bool {
	for i, place := range places {
		if !within(place, many) || slices.Contains(places[:i], place) {
			return false
		}
	}
	return true
}

// columnsHave tells whether a projection has all of some places among its columns.
func columnsHave(p api.Projection, places []int) bool {
	for _, place := range places {
		if !slices.Contains(p.Columns, place) {
			return false
		}
	}
	return true
}

func allCovered(c api.Catalog) bool {
	for i, t := range c.Tables {
		if !covered(c, i, 1<<len(t.Columns)-1) {
			return false
		}
	}
	return true
}

// covered tells whether a projection of a table has all of its columns, or two have them together. A projection is held against itself too: that is the one that has all alone.
func covered(c api.Catalog, table int, all uint) bool {
	for i, p := range c.Projs {
		for _, q := range c.Projs[i:] {
			if p.Table == table && q.Table == table && columnBits(p)|columnBits(q) == all {
				return true
			}
		}
	}
	return false
}

// columnBits has a bit for each column of a projection, at its place in the table.
func columnBits(p api.Projection) uint {
	var bits uint
	for _, place := range p.Columns {
		bits |= 1 << place
	}
	return bits
}

// allUsed tells whether each node has a copy of some segment.
func allUsed(c api.Catalog) bool {
	for node := range c.Nodes {
		if len(Of(c, node)) == 0 {
			return false
		}
	}
	return true
}
