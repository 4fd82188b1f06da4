package rosfile_test

import (
	"testing"

	"hayloft/api"
	"hayloft/rosfile"
	"hayloft/value"
)

// The chapter's examples, as they stand there.
func TestExamples(t *testing.T) {
	wantUnwritten(t, "no column", 0, nil, nil, api.ErrArg)
	wantUnwritten(t, "a place twice", 1, []int{0, 0}, nil, api.ErrArg)
	wantUnwritten(t, "a place that there is not", 1, []int{1}, nil, api.ErrArg)

	b := write(t, 1, nil, nil, nil)
	if len(b) != 30 {
		t.Errorf("P8.2: %d bytes: %x", len(b), b)
	}
	f := read(t, b)
	if least, greatest := f.Epochs(); f.Len() != 0 || least != 0 || greatest != 0 {
		t.Error("P8.4:", f.Len(), least, greatest)
	}

	one, two := ver(2, 0, value.Int(1)), ver(1, 0, value.Int(2))
	f = make1(t, 1, []int{0}, []api.Version{two, one})
	wantVersions(t, "All", f.All(), []api.Version{one, two})
	wantVersions(t, "From(2)", f.From(ints(2)), []api.Version{two})
	if place, ok := f.Find(api.RowId{Epoch: 2}); place != 0 || !ok {
		t.Error("P8.4: Find(2.0):", place, ok)
	}
	if least, greatest := f.Epochs(); least != 1 || greatest != 2 {
		t.Error("P8.4: Epochs:", least, greatest)
	}
	if got := rosfile.Sorted([]int{0}, []api.Version{two, one}); !alike(got, []api.Version{one, two}) {
		t.Errorf("P8.1: %+v", got)
	}
}
