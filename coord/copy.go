package coord

import (
	"slices"

	"hayloft/api"
)

// each is a list of what is made of another one's things.
func each[T any](l []T, of func(T) T) []T {
	out := make([]T, 0, len(l))
	for _, x := range l {
		out = append(out, of(x))
	}
	return out
}

// What follows are copies that share no memory.

func copyCatalog(c api.Catalog) api.Catalog {
	c.Tables = each(c.Tables, func(t api.Table) api.Table {
		t.Columns = slices.Clone(t.Columns)
		return t
	})
	c.Projs = each(c.Projs, func(p api.Projection) api.Projection {
		p.Columns, p.Sort = slices.Clone(p.Columns), slices.Clone(p.Sort)
		return p
	})
	return c
}

func copyOp(o api.Op) api.Op {
	o.Rows, o.Where = each(o.Rows, slices.Clone), slices.Clone(o.Where)
	return o
}

func copyQuery(q api.Query) api.Query {
	q.Where, q.Columns, q.By = slices.Clone(q.Where), slices.Clone(q.Columns), slices.Clone(q.By)
	q.Aggs, q.Order = slices.Clone(q.Aggs), slices.Clone(q.Order)
	return q
}

func copyPart(p api.Part) api.Part {
	p.Inserts, p.Erases = each(p.Inserts, copyInsert), slices.Clone(p.Erases)
	return p
}

func copyInsert(x api.Insert) api.Insert {
	x.Ver = copyVersion(x.Ver)
	return x
}

func copyVersion(v api.Version) api.Version {
	v.Row = slices.Clone(v.Row)
	return v
}
