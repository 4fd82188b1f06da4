package coord_test

import (
	"testing"

	"hayloft/api"
	"hayloft/catalog"
)

// The tests' catalogs are such that the chapter speaks of them.
func TestCatalogs(t *testing.T) {
	for _, c := range []api.Catalog{two(), four()} {
		wantErrno(t, "Check", catalog.Check(c), api.OK)
	}
}

// The chapter's examples, as they stand there.
func TestExamples(t *testing.T) {
	b := begin(t, two())
	b.wantState("Last, Members, Busy", 0, 0, false, 0, true, true)
	b.want("P21.2: Submit(5, none)", hear(b.c.Submit(5, nil, 0)), replied(failed(5, api.ErrInvalid)))

	part := api.Part{Inserts: []api.Insert{{At: at(0, 0), Ver: ver(0, 0, 7)}}}
	b.want("P21.2: Submit(6, insert (7))", hear(b.c.Submit(6, ops(insert(0, row(7))), 0)), said(prepare(0, 1, 0, part), prepare(1, 1, 0, part)))
	b.want("P21.4: a vote of 0", b.take(vote(0, 1, true)), silence())
	b.want("P21.4: a vote of 1", b.take(vote(1, 1, true)), heard{[]api.Reply{done(6, 1)}, []api.Message{decide(0, 1, 1), decide(1, 1, 1)}})

	b.want("P21.3: Ask(7, columns (0), 5)", hear(b.c.Ask(7, api.Query{Columns: []int{0}}, 5, 0)), replied(refused(7, api.ErrNotClosed)))
}
