package value

import "hayloft/api"

// Table tells whether there may be a table like t: OK or ErrValueTable.
func Table(t api.Table) api.Errno {
	if !named(t.Name) || len(t.Columns) == 0 || len(t.Columns) > api.MaxColumns {
		return api.ErrValueTable
	}
	for i, c := range t.Columns {
		if !named(c.Name) || !kept(c.Kind) || has(t.Columns[:i], c.Name) {
			return api.ErrValueTable
		}
	}
	return api.OK
}

func named(name string) bool {
	return len(name) > 0 && len(name) <= api.MaxText
}

// kept tells whether a column may be of that kind: not of nulls alone.
func kept(kind int) bool {
	return kind == api.KindBool || kind == api.KindInt || kind == api.KindText
}

func has(columns []api.Column, name string) bool {
	for _, c := range columns {
		if c.Name == name {
			return true
		}
	}
	return false
}

// Row tells whether row is one of the table t: OK, Table's error, or ErrValueRow.
func Row(t api.Table, row []api.Value) api.Errno {
	if e := Table(t); e != api.OK {
		return e
	}
	if len(row) != len(t.Columns) {
		return api.ErrValueRow
	}
	for i, c := range t.Columns {
		if !Fits(c, row[i]) {
			return api.ErrValueRow
		}
	}
	return api.OK
}
