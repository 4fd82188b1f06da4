package catalog

import (
	"iter"
	"slices"

	"hayloft/api"
	"hayloft/rows"
	"hayloft/value"
)

// Full is a table's whole row, and its name.
type Full struct {
	Table int
	Id    api.RowId
	Row   []api.Value
}

// Row is a table's row as a projection has it.
func Row(p api.Projection, row []api.Value) []api.Value {
	l := make([]api.Value, len(p.Columns))
	for i, place := range p.Columns {
		l[i] = valueAt(row, place)
	}
	return l
}

// valueAt is a row's value at a place, a null where it has none.
func valueAt(row []api.Value, place int) api.Value {
	if !within(place, len(row)) {
		return value.Null()
	}
	return row[place]
}

// Sort is a projection's sort columns, as places in its own rows.
func Sort(p api.Projection) []int {
	l := make([]int, len(p.Sort))
	for i, place := range p.Sort {
		l[i] = max(0, slices.Index(p.Columns, place))
	}
	return l
}

// Where is the segment of a projection to which a table's row belongs.
func Where(c api.Catalog, proj int, row []api.Value) api.Segment {
	if !within(proj, len(c.Projs)) {
		return api.Segment{}
	}
	by := valueAt(row, c.Projs[proj].By)
	return api.Segment{Proj: proj, Seg: rows.Segment(by, c.Segments)}
}

// Parts cuts what a transaction does into what it does at each node. Each copy of a row has a memory of its own.
func Parts(c api.Catalog, inserts []Full, erases []Full) []api.Part {
	if !counted(c) {
		return nil
	}
	parts := make([]api.Part, c.Nodes)
	for _, f := range inserts {
		for node, at := range copies(c, f) {
			ver := api.Version{Id: f.Id, Row: Row(c.Projs[at.Proj], f.Row)}
			parts[node].Inserts = append(parts[node].Inserts, api.Insert{At: at, Ver: ver})
		}
	}
	for _, f := range erases {
		for node, at := range copies(c, f) {
			parts[node].Erases = append(parts[node].Erases, api.Erase{At: at, Id: f.Id})
		}
	}
	return parts
}

// copies gives the nodes that have a copy of a row, and the segment in which each has it: projection by projection.
func copies(c api.Catalog, f Full) iter.Seq2[int, api.Segment] {
	return func(yield func(int, api.Segment) bool) {
		for proj, p := range c.Projs {
			if p.Table != f.Table {
				continue
			}
			at := Where(c, proj, f.Row)
			for _, node := range Nodes(c, at) {
				if !yield(node, at) {
					return
				}
			}
		}
	}
}
