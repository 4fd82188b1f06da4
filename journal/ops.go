package journal

import (
	"math"
	"slices"

	"hayloft/api"
	"hayloft/codec"
	"hayloft/rows"
)

// mayBeWritten tells whether ops can be told by a record.
func mayBeWritten(ops []api.Op) bool {
	for _, o := range ops {
		if !isOne(o) || !areRows(o.Rows) || !areTerms(o.Where) {
			return false
		}
	}
	return true
}

// isOne tells whether an op has a kind, and nothing that its kind has not.
func isOne(o api.Op) bool {
	switch o.Kind {
	case api.OpInsert:
		return isByte(o.Table) && len(o.Where) == 0
	case api.OpDelete:
		return isByte(o.Table) && len(o.Rows) == 0
	}
	return false
}

func areRows(l [][]api.Value) bool {
	for _, row := range l {
		if _, e := rows.Encode(row); e != api.OK {
			return false
		}
	}
	return true
}

func areTerms(l []api.Term) bool {
	for _, t := range l {
		if _, e := rows.Encode(alone(t.Value)); e != api.OK || !isByte(t.Column) || !isByte(t.Op) {
			return false
		}
	}
	return true
}

func isByte(n int) bool { return n >= 0 && n <= math.MaxUint8 }

// alone is the row of one value.
func alone(v api.Value) []api.Value { return []api.Value{v} }

// putOps writes ops that may be written.
func putOps(w *codec.Writer, ops []api.Op) {
	codec.Put(w, ops, func(w *codec.Writer, o api.Op) {
		w.Byte(byte(o.Kind))
		w.Byte(byte(o.Table))
		codec.Put(w, o.Rows, putRow)
		codec.Put(w, o.Where, func(w *codec.Writer, t api.Term) {
			w.Byte(byte(t.Column))
			w.Byte(byte(t.Op))
			putRow(w, alone(t.Value))
		})
	})
}

// takeOps reads what putOps writes; it fails r, if they are ops that may not be written.
func takeOps(r *codec.Reader) []api.Op {
	ops := codec.List(r, api.MaxFrame, func(r *codec.Reader) api.Op {
		kind, table := int(r.Byte()), int(r.Byte())
		l := codec.List(r, api.MaxFrame, takeRow)
		return api.Op{Kind: kind, Table: table, Rows: l, Where: codec.List(r, api.MaxFrame, takeTerm)}
	})
	if !mayBeWritten(ops) {
		r.Fail(api.ErrJournalForm)
	}
	return ops
}

func takeTerm(r *codec.Reader) api.Term {
	column, op := int(r.Byte()), int(r.Byte())
	row := takeRow(r)
	if len(row) != 1 {
		r.Fail(api.ErrJournalForm)
		return api.Term{}
	}
	return api.Term{Column: column, Op: op, Value: row[0]}
}

// putRow writes a row that can be written.
func putRow(w *codec.Writer, row []api.Value) {
	if w.Len() > api.MaxFrame {
		return // the log refuses the record for its length already: no more memory is taken for it, however long it is
	}
	b, _ := rows.Encode(row)
	w.Text(b)
}

func takeRow(r *codec.Reader) []api.Value {
	row, e := rows.Decode(r.Text(api.MaxFrame))
	r.Fail(e)
	return row
}

func copyOps(ops []api.Op) []api.Op {
	ops = slices.Clone(ops)
	for i := range ops {
		l := slices.Clone(ops[i].Rows)
		for n := range l {
			l[n] = slices.Clone(l[n])
		}
		ops[i].Rows = l
		ops[i].Where = slices.Clone(ops[i].Where)
	}
	return ops
}
