package journal_test

import (
	"testing"

	"hayloft/api"
	"hayloft/disk"
)

// The chapter's examples, as they stand there.
func TestExamples(t *testing.T) {
	d := disk.New(10000)
	j := open(t, "an empty disk", d, 3)
	if j.Boot() != 1 {
		t.Error("P19.1: Boot:", j.Boot())
	}
	wantBegin(t, "an empty disk", j, 1, api.OK)
	wantBegin(t, "one is not decided", j, 0, api.ErrJournalOpen)
	wantUndecided(t, "one is not decided", j, 1)

	wantErrno(t, "P19.3: Commit(2, 1)", j.Commit(2, 1, nil), api.ErrJournalTxn)
	wantErrno(t, "P19.3: Commit(1, 2)", j.Commit(1, 2, nil), api.ErrJournalEpoch)
	wantErrno(t, "P19.3: Commit(1, 1, none)", j.Commit(1, 1, nil), api.OK)
	if j.Last() != 1 {
		t.Error("P19.2: Last:", j.Last())
	}

	wantErrno(t, "P19.3: Evict(1)", j.Evict(1), api.OK)
	wantErrno(t, "P19.3: Evict(1) again", j.Evict(1), api.ErrJournalNode)
	wantErrno(t, "P19.3: Join(0)", j.Join(0), api.ErrJournalNode)
	wantErrno(t, "P19.3: Join(1)", j.Join(1), api.OK)
	wantErrno(t, "P19.3: Evict(3)", j.Evict(3), api.ErrJournalNode)

	wantErrno(t, "P19.3: Mark(2)", j.Mark(2), api.ErrJournalEpoch)
	wantErrno(t, "P19.3: Mark(1)", j.Mark(1), api.OK)
	wantErrno(t, "P19.3: Mark(0)", j.Mark(0), api.ErrJournalEpoch)
	if j.History() != 1 {
		t.Error("P19.2: History:", j.History())
	}

	wantBegin(t, "the second one", j, 2, api.OK)
	j = open(t, "anew", d, 3)
	if j.Boot() != 2 {
		t.Error("P19.1: Boot:", j.Boot())
	}
	wantUndecided(t, "anew", j, 2)
	wantErrno(t, "P19.3: Abort(2)", j.Abort(2), api.OK)
	wantBegin(t, "the third one", j, 3, api.OK)
}
