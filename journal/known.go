package journal

import (
	"hayloft/api"
	"hayloft/codec"
)

// known is what all records together say.
type known struct {
	boots     uint64
	begun     uint64 // the number of the last transaction that was begun
	undecided bool   // whether that one is
	members   []bool
	mark      uint64
	commits   []api.Commit // that of epoch 1, of epoch 2, ..
}

// atFirst is what is known where there is no record.
func atFirst(nodes int) known {
	k := known{members: make([]bool, nodes)}
	for i := range k.members {
		k.members[i] = true
	}
	return k
}

// next is the number of the next transaction.
func (k *known) next() uint64 { return k.begun + 1 }

// last is the last epoch.
func (k *known) last() uint64 { return uint64(len(k.commits)) }

// awaits tells whether that transaction is the undecided one.
func (k *known) awaits(txn uint64) bool { return k.undecided && txn == k.begun }

// has tells whether there is such a node, and it is a member, or out, as is asked.
func (k *known) has(node int, member bool) bool {
	return node >= 0 && node < len(k.members) && k.members[node] == member
}

// mayMark tells whether the mark may move to an epoch.
func (k *known) mayMark(epoch uint64) bool { return epoch > k.mark && epoch <= k.last() }

// learn does what a record does; ErrJournalForm, if it is none, or does not fit.
func (k *known) learn(record []byte) api.Errno {
	r := codec.Read(record)
	do := takeDeed(r)
	if r.End() != api.OK || !do(k) {
		return api.ErrJournalForm
	}
	return api.OK
}
