package exec_test

import (
	"slices"
	"testing"

	"hayloft/api"
	"hayloft/exec"
)

// The chapter's examples, as they stand there.
func TestExamples(t *testing.T) {
	wantRows(t, "P15.2: the example", exec.Join(of(row(1), row(2)).all, of(row(2), row(2), row(nil)).all, 0, 0), list(row(2, 2), row(2, 2)))

	wantRows(t, "P15.3: the first example", exec.Group(of().all, nil, []api.Agg{{Op: api.AggCount}, {Op: api.AggSum, Column: 0}}), list(row(0, nil)))
	wantRows(t, "P15.3: the second example", exec.Group(of(row(1), row(2), row(1)).all, []int{0}, []api.Agg{{Op: api.AggCount}}), list(row(1, 2), row(2, 1)))

	sorted := exec.Sort(list(row(1, 2), row(1, 1), row(2, 0)), []api.Order{{Column: 0, Down: true}})
	wantRows(t, "P15.4: the example", slices.Values(sorted), list(row(2, 0), row(1, 1), row(1, 2)))

	wantCollect(t, "two rows, 1", of(row(1), row(2)), 1, nil, api.ErrExecMany)
	wantRows(t, "P15.1: Limit(rows, 0)", exec.Limit(of(row(1), row(2)).all, 0), nil)
}
