package plan_test

import (
	"math/rand/v2"
	"slices"
	"testing"

	"hayloft/api"
	"hayloft/catalog"
	"hayloft/plan"
)

// mixed is a list in another order.
func mixed[T any](r *rand.Rand, l []T) []T {
	l = slices.Clone(l)
	r.Shuffle(len(l), func(i, k int) { l[i], l[k] = l[k], l[i] })
	return l
}

// P16.5: the order of left and right's rows is not seen in an answer, not even in which rows stand ahead of the Limit.
func TestOrderIsNotSeen(t *testing.T) {
	several := 0
	for seed := range uint64(6000) {
		r := rand.New(rand.NewPCG(165, seed))
		q, left, right := someQuery(r), someRows(r), someRows(r)
		want, e := plan.Answer(q, left, right)
		for range 3 {
			if l, f := plan.Answer(q, mixed(r, left), mixed(r, right)); f != e || !same(l, want) {
				t.Fatalf("P16.5: seed %d: %+v: %v and %v", seed, q, l, want)
			}
		}
		if len(want) > 1 {
			several++
		}
	}
	if several < 1500 {
		t.Error("too few:", several)
	}
	q := api.Query{Join: true, Columns: []int{0, 1}}
	r := rand.New(rand.NewPCG(165, 165))
	for _, many := range []int{api.MaxAnswer, api.MaxAnswer + 1} {
		rows := numbers(many)
		want, e := plan.Answer(q, rows, rows)
		if l, f := plan.Answer(q, mixed(r, rows), mixed(r, rows)); f != e || !same(l, want) {
			t.Errorf("P16.5: %d rows: %d and %d", many, f, e)
		}
	}
}

// someFulls are whole rows of a table, each of another name, and for each when it was deleted.
func someFulls(r *rand.Rand, c api.Catalog, table int) ([]catalog.Full, map[api.RowId]uint64) {
	fulls, deleted := make([]catalog.Full, r.IntN(12)), map[api.RowId]uint64{}
	some := row(nil, 1, 2, 3, "a", "b", true, false)
	for i := range fulls {
		at := id(1+r.Uint64N(4), uint32(i))
		fulls[i] = catalog.Full{Table: table, Id: at}
		for range c.Tables[table].Columns {
			fulls[i].Row = append(fulls[i].Row, some[r.IntN(len(some))])
		}
		if r.IntN(3) == 0 {
			deleted[at] = at.Epoch + 1 + r.Uint64N(4)
		}
	}
	return fulls, deleted
}

// laid is the versions of each of some segments, as the first node that has a copy of it has them.
func laid(r *rand.Rand, c api.Catalog, parts []api.Part, deleted map[api.RowId]uint64, l []api.Segment) [][]api.Version {
	var out [][]api.Version
	for _, at := range l {
		var here []api.Version
		for _, in := range parts[catalog.Nodes(c, at)[0]].Inserts {
			if in.At == at {
				in.Ver.Deleted = deleted[in.Ver.Id]
				here = append(here, in.Ver)
			}
		}
		out = append(out, mixed(r, here))
	}
	return out
}

// P16.5: if whole rows stand in all projections, Full is the same by every way: the rows that are visible, by rising names.
func TestFullIsTheSameByEveryWay(t *testing.T) {
	several := 0
	for seed := range uint64(4000) {
		r := rand.New(rand.NewPCG(1650, seed))
		c := someCatalog(r)
		if catalog.Check(c) != api.OK {
			continue
		}
		table := r.IntN(len(c.Tables))
		fulls, deleted := someFulls(r, c, table)
		parts := catalog.Parts(c, mixed(r, fulls), nil)
		for epoch := range uint64(9) {
			var want []api.Version
			for _, f := range fulls {
				if gone := deleted[f.Id]; f.Id.Epoch <= epoch && (gone == 0 || gone > epoch) {
					want = append(want, api.Version{Id: f.Id, Row: f.Row})
				}
			}
			slices.SortFunc(want, func(a, b api.Version) int {
				if a.Id.Epoch != b.Id.Epoch {
					return int(a.Id.Epoch) - int(b.Id.Epoch)
				}
				return int(a.Id.Number) - int(b.Id.Number)
			})
			for pick := range plan.Many(c, table) {
				p, _ := plan.Choose(c, table, pick)
				wantFull(t, "P16.5", c, p, laid(r, c, parts, deleted, plan.Needs(c, p)), epoch, want...)
			}
		}
		if t.Failed() {
			t.Fatalf("seed %d: %+v", seed, c)
		}
		if plan.Many(c, table) > 1 && len(fulls) > 1 {
			several++
		}
	}
	if several < 200 {
		t.Error("too few:", several)
	}
}

// A query that Check takes, asked of what Full answers, is answered alike whichever ways were chosen.
func TestAnswersByEveryWay(t *testing.T) {
	c := town()
	q := api.Query{Join: true, Table: 0, Right: 1, LeftOn: 3, RightOn: 0, Columns: []int{0, 5}, Order: []api.Order{{Column: 1, Down: true}}, Limit: 2}
	wantCheck(t, "the query", c, q, api.OK)
	var fulls []catalog.Full
	for i, p := range people() {
		fulls = append(fulls, catalog.Full{Table: 0, Id: id(1, uint32(i)), Row: p})
	}
	for i, s := range streets() {
		fulls = append(fulls, catalog.Full{Table: 1, Id: id(2, uint32(i)), Row: s})
	}
	parts := catalog.Parts(c, fulls, nil)
	r := rand.New(rand.NewPCG(1, 65))
	rowsOf := func(table, pick int) [][]api.Value {
		p, e := plan.Choose(c, table, pick)
		if e != api.OK {
			t.Errorf("P16.2: Choose(%d, %d): %d", table, pick, e)
		}
		var l [][]api.Value
		for _, v := range plan.Full(c, p, laid(r, c, parts, nil, plan.Needs(c, p)), 2) {
			l = append(l, v.Row)
		}
		return l
	}
	for pick := range 6 {
		wantAnswer(t, "by every way", q, rowsOf(0, pick), rowsOf(1, pick), list(row("Ann", 200), row("Bob", 100)))
	}
}
