package journal_test

import (
	"fmt"
	"slices"
	"testing"

	"hayloft/api"
	"hayloft/journal"
)

// world is what a journal must tell, and the records that its file must have, as the chapter's words say it.
type world struct {
	boots   uint64
	begun   uint64
	open    bool
	members []bool
	mark    uint64
	commits []api.Commit
	records [][]byte
}

func newWorld(nodes int) *world {
	w := &world{}
	for range nodes {
		w.members = append(w.members, true)
	}
	return w
}

func (w *world) clone() *world {
	x := *w
	x.members = slices.Clone(w.members)
	x.commits = slices.Clone(w.commits)
	x.records = slices.Clone(w.records)
	return &x
}

func (w *world) record(b []byte) api.Errno {
	w.records = append(w.records, b)
	return api.OK
}

func (w *world) last() uint64 { return uint64(len(w.commits)) }

func (w *world) undecided() uint64 {
	if w.open {
		return w.begun
	}
	return 0
}

func (w *world) boot() {
	w.boots++
	w.record(openedRecord())
}

func (w *world) begin() api.Errno {
	if w.open {
		return api.ErrJournalOpen
	}
	w.begun++
	w.open = true
	return w.record(begunRecord(w.begun))
}

// commit takes ops that may be written, or bad ones, if good says otherwise.
func (w *world) commit(txn, epoch uint64, ops []api.Op, good bool) api.Errno {
	switch {
	case !w.open || txn != w.begun:
		return api.ErrJournalTxn
	case epoch != w.last()+1:
		return api.ErrJournalEpoch
	case !good:
		return api.ErrJournalOps
	}
	w.open = false
	w.commits = append(w.commits, api.Commit{Txn: txn, Epoch: epoch, Ops: ops})
	return w.record(committedRecord(txn, epoch, ops...))
}

func (w *world) abort(txn uint64) api.Errno {
	if !w.open || txn != w.begun {
		return api.ErrJournalTxn
	}
	w.open = false
	return w.record(abortedRecord(txn))
}

func (w *world) turn(node int, member bool) api.Errno {
	if node < 0 || node >= len(w.members) || w.members[node] == member {
		return api.ErrJournalNode
	}
	w.members[node] = member
	if member {
		return w.record(memberRecord(byte(node)))
	}
	return w.record(outRecord(byte(node)))
}

func (w *world) markAt(epoch uint64) api.Errno {
	if epoch > w.last() || epoch < w.mark {
		return api.ErrJournalEpoch
	}
	if epoch == w.mark {
		return api.OK
	}
	w.mark = epoch
	return w.record(markRecord(epoch))
}

// unlike says in what a journal tells something else; how often it was opened is asked elsewhere.
func (w *world) unlike(j *journal.Journal) string {
	txn, open := j.Undecided()
	switch {
	case j.Last() != w.last():
		return fmt.Sprint("Last: ", j.Last(), ", want ", w.last())
	case j.History() != w.mark:
		return fmt.Sprint("History: ", j.History(), ", want ", w.mark)
	case !slices.Equal(j.Members(), w.members):
		return fmt.Sprint("Members: ", j.Members(), ", want ", w.members)
	case txn != w.undecided() || open != w.open:
		return fmt.Sprint("Undecided: ", txn, open, ", want ", w.undecided())
	case !alikeCommits(j.Commits(), w.commits):
		return fmt.Sprintf("Commits: %.600v, want %.600v", j.Commits(), w.commits)
	}
	return ""
}

// want wants that a journal tells all of it.
func (w *world) want(t *testing.T, what string, j *journal.Journal) {
	t.Helper()
	if s := w.unlike(j); s != "" {
		t.Errorf("P19.2: %s: %s", what, s)
	}
	if j.Boot() != w.boots {
		t.Errorf("P19.1: %s: Boot: %d, want %d", what, j.Boot(), w.boots)
	}
}
