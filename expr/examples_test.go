package expr_test

import (
	"testing"

	"hayloft/api"
	"hayloft/value"
)

// The chapter's examples, as they stand there.
func TestExamples(t *testing.T) {
	five, null := []api.Value{value.Int(5)}, []api.Value{value.Null()}
	wantTerm(t, api.Term{Column: 0, Op: api.TermEqual, Value: value.Int(5)}, five, true)
	wantTerm(t, api.Term{Column: 0, Op: api.TermEqual, Value: value.Null()}, null, false)
	wantTerm(t, api.Term{Column: 0, Op: api.TermUnlike, Value: value.Int(5)}, null, false)

	wantTerm(t, api.Term{Column: 1, Op: api.TermNull}, five, false)
	wantAll(t, nil, nil, true)

	first := api.Term{Column: 0, Op: api.TermAbove, Value: value.Int(5)}
	third := api.Term{Column: 2, Op: api.TermBelow, Value: value.Text("a")}
	wantSplit(t, []api.Term{first, third}, 2, []api.Term{first}, []api.Term{{Column: 0, Op: api.TermBelow, Value: value.Text("a")}})
}
