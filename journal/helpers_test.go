package journal_test

import (
	"bytes"
	"encoding/binary"
	"hash/crc32"
	"slices"
	"strings"
	"testing"

	"hayloft/api"
	"hayloft/disk"
	"hayloft/journal"
)

func null() api.Value          { return api.Value{} }
func truth(b bool) api.Value   { return api.Value{Kind: api.KindBool, Bool: b} }
func number(n int64) api.Value { return api.Value{Kind: api.KindInt, Int: n} }
func text(s string) api.Value  { return api.Value{Kind: api.KindText, Text: s} }

func row(l ...api.Value) []api.Value { return l }

func insert(table int, rows ...[]api.Value) api.Op {
	return api.Op{Kind: api.OpInsert, Table: table, Rows: rows}
}

func remove(table int, where ...api.Term) api.Op {
	return api.Op{Kind: api.OpDelete, Table: table, Where: where}
}

func term(column, op int, v api.Value) api.Term {
	return api.Term{Column: column, Op: op, Value: v}
}

func list(l ...api.Op) []api.Op { return l }

// someOps have all that ops may have.
func someOps() []api.Op {
	return list(
		insert(3, row(number(-5), null(), truth(true), truth(false)), row(), row(text(""), text("a\x00\xff"))),
		remove(0, term(7, api.TermFull, null()), term(255, 255, text("ab")), term(0, api.TermEqual, truth(true))),
		insert(255),
		remove(1),
	)
}

// columns is a row of so many ints.
func columns(many int) []api.Value {
	l := make([]api.Value, many)
	for i := range l {
		l[i] = number(int64(i))
	}
	return l
}

func long(n uint64) []byte { return binary.BigEndian.AppendUint64(nil, n) }

func varOf(n int) []byte {
	switch {
	case n < 253:
		return []byte{byte(n)}
	case n < 1<<16:
		return binary.BigEndian.AppendUint16([]byte{253}, uint16(n))
	}
	return binary.BigEndian.AppendUint32([]byte{254}, uint32(n))
}

func textBytes(b []byte) []byte { return slices.Concat(varOf(len(b)), b) }

// listed is a list of things, each of which is told by one.
func listed[T any](l []T, one func(x T) []byte) []byte {
	out := varOf(len(l))
	for _, x := range l {
		out = append(out, one(x)...)
	}
	return out
}

// rowBytes is a row as chapter 3 writes it, as a Text.
func rowBytes(l []api.Value) []byte {
	out := []byte{byte(len(l))}
	for _, v := range l {
		out = append(out, byte(v.Kind))
		switch v.Kind {
		case api.KindBool:
			out = append(out, map[bool]byte{true: 1}[v.Bool])
		case api.KindInt:
			out = append(out, long(uint64(v.Int))...)
		case api.KindText:
			out = append(append(out, byte(len(v.Text))), v.Text...)
		}
	}
	return textBytes(out)
}

func termBytes(t api.Term) []byte {
	return slices.Concat([]byte{byte(t.Column), byte(t.Op)}, rowBytes(row(t.Value)))
}

func opBytes(o api.Op) []byte {
	return slices.Concat([]byte{byte(o.Kind), byte(o.Table)}, listed(o.Rows, rowBytes), listed(o.Where, termBytes))
}

// The records, as another writer tells them.

func openedRecord() []byte { return []byte{1} }

func begunRecord(txn uint64) []byte { return slices.Concat([]byte{2}, long(txn)) }

func committedRecord(txn, epoch uint64, ops ...api.Op) []byte {
	return committedAs(txn, epoch, listed(ops, opBytes))
}

func committedAs(txn, epoch uint64, ops []byte) []byte {
	return slices.Concat([]byte{3}, long(txn), long(epoch), ops)
}

func abortedRecord(txn uint64) []byte { return slices.Concat([]byte{4}, long(txn)) }

func outRecord(node byte) []byte { return []byte{5, node} }

func memberRecord(node byte) []byte { return []byte{6, node} }

func markRecord(epoch uint64) []byte { return slices.Concat([]byte{7}, long(epoch)) }

// framed is a frame of any body.
func framed(body []byte) []byte {
	b := binary.BigEndian.AppendUint32(nil, uint32(len(body)))
	b = binary.BigEndian.AppendUint32(b, crc32.ChecksumIEEE(b))
	b = append(b, body...)
	return binary.BigEndian.AppendUint32(b, crc32.ChecksumIEEE(body))
}

// logBytes is a log in which each record was appended alone; together one in which all were at once.
func logBytes(records ...[]byte) []byte {
	var out []byte
	for _, r := range records {
		out = append(out, together(r)...)
	}
	return out
}

func together(records ...[]byte) []byte { return framed(listed(records, textBytes)) }

// onDisk is a disk with a journal of these bytes, that last.
func onDisk(t *testing.T, b []byte) *disk.Disk {
	t.Helper()
	d := disk.New(len(b) + 100000)
	wantErrno(t, "a disk", d.Append("journal", b), api.OK)
	wantErrno(t, "a disk", d.Sync("journal"), api.OK)
	return d
}

// file is what the journal's file has; lasts what is found of it, if nothing survives that does not last.
func file(t *testing.T, d *disk.Disk) []byte {
	t.Helper()
	b, ok := d.Read("journal")
	if !ok {
		t.Fatal("there is no file journal")
	}
	return b
}

func lasts(t *testing.T, d *disk.Disk) []byte {
	t.Helper()
	return file(t, d.Crash(nil))
}

// wantFile wants that just these records are in the file, each appended alone, and that all of them last.
func wantFile(t *testing.T, what string, d *disk.Disk, records ...[]byte) {
	t.Helper()
	if got, want := file(t, d), logBytes(records...); !bytes.Equal(got, want) {
		t.Errorf("Records: %s: the file is %.400x, want %.400x", what, got, want)
	}
	if got := lasts(t, d); !bytes.Equal(got, file(t, d)) {
		t.Errorf("Records: %s: %d bytes last, want %d", what, len(got), len(file(t, d)))
	}
}

func wantErrno(t *testing.T, what string, got, want api.Errno) {
	t.Helper()
	if got != want {
		t.Errorf("%s: answers %d, want %d", what, got, want)
	}
}

// open opens a journal that must be.
func open(t *testing.T, what string, d *disk.Disk, nodes int) *journal.Journal {
	t.Helper()
	j, e := journal.Open(d, nodes)
	if e != api.OK || j == nil {
		t.Fatalf("P19.1: %s: Open: %d", what, e)
	}
	return j
}

// wantNotOpened wants that Open is refused.
func wantNotOpened(t *testing.T, what string, d *disk.Disk, nodes int, want api.Errno) {
	t.Helper()
	if j, e := journal.Open(d, nodes); e != want || j != nil {
		t.Errorf("P19.1: %s: Open: %v, %d, want %d", what, j != nil, e, want)
	}
}

func wantBegin(t *testing.T, what string, j *journal.Journal, txn uint64, want api.Errno) {
	t.Helper()
	if n, e := j.Begin(); n != txn || e != want {
		t.Errorf("P19.3: %s: Begin: %d, %d, want %d, %d", what, n, e, txn, want)
	}
}

func wantUndecided(t *testing.T, what string, j *journal.Journal, txn uint64) {
	t.Helper()
	if n, ok := j.Undecided(); n != txn || ok != (txn != 0) {
		t.Errorf("P19.2: %s: Undecided: %d, %v, want %d", what, n, ok, txn)
	}
}

// epochs commits so many transactions, of nothing.
func epochs(t *testing.T, j *journal.Journal, many int) {
	t.Helper()
	for range many {
		txn, e := j.Begin()
		wantErrno(t, "P19.3: Begin", e, api.OK)
		wantErrno(t, "P19.3: Commit", j.Commit(txn, j.Last()+1, nil), api.OK)
	}
}

func alikeTerms(a, b []api.Term) bool { return slices.Equal(a, b) }

func alikeRows(a, b [][]api.Value) bool {
	return slices.EqualFunc(a, b, func(x, y []api.Value) bool { return slices.Equal(x, y) })
}

func alikeOps(a, b []api.Op) bool {
	return slices.EqualFunc(a, b, func(x, y api.Op) bool {
		return x.Kind == y.Kind && x.Table == y.Table && alikeRows(x.Rows, y.Rows) && alikeTerms(x.Where, y.Where)
	})
}

func alikeCommits(a, b []api.Commit) bool {
	return slices.EqualFunc(a, b, func(x, y api.Commit) bool {
		return x.Txn == y.Txn && x.Epoch == y.Epoch && alikeOps(x.Ops, y.Ops)
	})
}

// deep is a copy that shares no memory.
func deep(l []api.Op) []api.Op {
	l = slices.Clone(l)
	for i := range l {
		l[i].Where = slices.Clone(l[i].Where)
		l[i].Rows = slices.Clone(l[i].Rows)
		for n := range l[i].Rows {
			l[i].Rows[n] = slices.Clone(l[i].Rows[n])
		}
	}
	return l
}

// long64 is a text as long as texts may be.
func long64() string { return strings.Repeat("z", api.MaxText) }
