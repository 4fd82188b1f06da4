package wos_test

import (
	"testing"

	"hayloft/api"
	"hayloft/wos"
)

// The chapter's examples, as they stand there.
func TestExamples(t *testing.T) {
	a, b := ver(2, 0, 0), ver(1, 5, 0)
	w := wos.New()
	wantErrno(t, "Add(a)", w.Add(a), api.OK)
	wantErrno(t, "Add(a) again", w.Add(a), api.ErrWosTwice)
	wantErrno(t, "Add(b, Deleted 1)", w.Add(deletedAt(b, 1)), api.ErrWosEpoch)
	wantErrno(t, "Add(b, Deleted 3)", w.Add(deletedAt(b, 3)), api.OK)

	wantGiven(t, "All", w.All(), []api.Version{deletedAt(b, 3), a})
	wantGiven(t, "At(1)", w.At(1), []api.Version{b})
	wantGiven(t, "At(2)", w.At(2), []api.Version{b, a})
	wantGiven(t, "At(3)", w.At(3), []api.Version{a})

	wantErrno(t, "Erase(a, 2)", w.Erase(a.Id, 2), api.ErrWosEpoch)
	wantErrno(t, "Erase(b, 4)", w.Erase(b.Id, 4), api.ErrWosErased)
	wantErrno(t, "Erase({9, 9}, 1)", w.Erase(name(9, 9), 1), api.ErrWosNone)
	wantErrno(t, "Erase(a, 4)", w.Erase(a.Id, 4), api.OK)
	if v, ok := w.Get(a.Id); !ok || !alikeOne(v, deletedAt(a, 4)) {
		t.Errorf("Get(a): %+v, %v", v, ok)
	}

	if n := w.Purge(2); n != 0 {
		t.Error("Purge(2):", n)
	}
	if n := w.Purge(3); n != 1 {
		t.Error("Purge(3):", n)
	}
	if w.Len() != 1 {
		t.Error("Len:", w.Len())
	}
	if l := w.Take(); !alike(l, []api.Version{deletedAt(a, 4)}) {
		t.Errorf("Take: %+v", l)
	}
	if w.Len() != 0 {
		t.Error("Len behind Take:", w.Len())
	}
}
