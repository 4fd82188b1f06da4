package plan_test

import (
	"testing"

	"hayloft/api"
	"hayloft/catalog"
	"hayloft/plan"
)

// The tests' catalogs are such that the chapter speaks of them.
func TestCatalogs(t *testing.T) {
	for _, c := range []api.Catalog{example(), town()} {
		if e := catalog.Check(c); e != api.OK {
			t.Error(e)
		}
	}
}

// The chapter's examples, as they stand there.
func TestExamples(t *testing.T) {
	c := example()
	if n := plan.Many(c, 0); n != 2 {
		t.Errorf("P16.2: Many: %d", n)
	}
	wantChoose(t, c, 0, 0, way(0, -1))
	wantChoose(t, c, 0, 1, way(1, 2))
	wantChoose(t, c, 0, -1, way(1, 2))

	wantCheck(t, "no columns", c, api.Query{}, api.ErrPlanQuery)
	wantCheck(t, "columns (2)", c, api.Query{Columns: []int{2}}, api.ErrPlanQuery)
	wantCheck(t, "group by nothing: count", c, api.Query{Group: true, Aggs: []api.Agg{{Op: api.AggCount}}}, api.OK)
}
