package store_test

import (
	"slices"
	"testing"

	"hayloft/api"
	"hayloft/disk"
	"hayloft/store"
)

// The chapter's examples, as they stand there.
func TestExamples(t *testing.T) {
	at := api.Segment{}
	five := ver(at, 1, 0, 5, 0)
	s := open(t, "an example", formatted(t, one()), one())
	if s.Through() != 0 {
		t.Error("Through:", s.Through())
	}
	wantErrno(t, "Prepare(7, x)", s.Prepare(7, coming(insert(at, 0, 5))), api.OK)
	wantNumbers(t, "Prepared", s.Prepared(), 7)
	wantVersions(t, "Versions", s.Versions(at))

	wantErrno(t, "Decide(2, 7)", s.Decide(2, 7), api.ErrStoreEpoch)
	wantErrno(t, "Decide(1, 7)", s.Decide(1, 7), api.OK)
	if s.Through() != 1 {
		t.Error("Through:", s.Through())
	}
	wantVersions(t, "Versions", s.Versions(at), five)

	wantErrno(t, "Prepare(8, erase of {1, 0})", s.Prepare(8, going(erase(at, 1, 0))), api.OK)
	wantErrno(t, "Prepare(9, erase of {3, 0})", s.Prepare(9, going(erase(at, 3, 0))), api.ErrStorePart)
	wantErrno(t, "Decide(2, 8)", s.Decide(2, 8), api.OK)
	wantVersions(t, "Scan 1", slices.Collect(s.Scan(at, 1)), five)
	wantVersions(t, "Scan 2", slices.Collect(s.Scan(at, 2)))

	wantErrno(t, "SetMark(3)", s.SetMark(3), api.ErrStoreEpoch)
	wantErrno(t, "SetMark(2)", s.SetMark(2), api.OK)
	wantErrno(t, "Replace(loose, no file)", s.Replace(at, nil, true, nil), api.OK)
	wantVersions(t, "Versions", s.Versions(at))

	if s, e := store.Open(disk.New(100), one()); e != api.ErrStoreWiped || s != nil {
		t.Error("Open on a disk without files:", e)
	}
}
