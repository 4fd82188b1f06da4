package journal

import (
	"hayloft/api"
	"hayloft/codec"
)

// The kinds of records: their first bytes.
const (
	opened = 1 + iota
	begun
	committed
	aborted
	evicted
	joined
	marked
)

// head is the beginning of a record: its kind, and the numbers behind it.
func head(kind byte, numbers ...uint64) *codec.Writer {
	w := codec.New()
	w.Byte(kind)
	for _, n := range numbers {
		w.Long(n)
	}
	return w
}

// headOfNode is a record that tells of a node, one that there is.
func headOfNode(kind byte, node int) *codec.Writer {
	w := head(kind)
	w.Byte(byte(node))
	return w
}

// deed is what a record does to what is known; it answers false, and does nothing, if the record does not fit.
type deed func(k *known) bool

// takeDeed reads a record; none, if r fails.
func takeDeed(r *codec.Reader) deed {
	switch r.Byte() {
	case opened:
		return open()
	case begun:
		return begin(r.Long())
	case committed:
		txn, epoch := r.Long(), r.Long()
		return commit(api.Commit{Txn: txn, Epoch: epoch, Ops: takeOps(r)})
	case aborted:
		return abort(r.Long())
	case evicted:
		return move(int(r.Byte()), false)
	case joined:
		return move(int(r.Byte()), true)
	case marked:
		return mark(r.Long())
	}
	r.Fail(api.ErrJournalForm)
	return nil
}

func open() deed {
	return func(k *known) bool {
		k.boots++
		return true
	}
}

func begin(txn uint64) deed {
	return func(k *known) bool {
		if k.undecided || txn != k.next() {
			return false
		}
		k.begun, k.undecided = txn, true
		return true
	}
}

func commit(c api.Commit) deed {
	return func(k *known) bool {
		if !k.awaits(c.Txn) || c.Epoch != k.last()+1 {
			return false
		}
		k.commits = append(k.commits, c)
		k.undecided = false
		return true
	}
}

func abort(txn uint64) deed {
	return func(k *known) bool {
		if !k.awaits(txn) {
			return false
		}
		k.undecided = false
		return true
	}
}

// move makes a node a member, or puts it out.
func move(node int, member bool) deed {
	return func(k *known) bool {
		if !k.has(node, !member) {
			return false
		}
		k.members[node] = member
		return true
	}
}

func mark(epoch uint64) deed {
	return func(k *known) bool {
		if !k.mayMark(epoch) {
			return false
		}
		k.mark = epoch
		return true
	}
}
