package plan_test

import (
	"math"
	"math/rand/v2"
	"strconv"
	"testing"

	"hayloft/api"
	"hayloft/catalog"
	"hayloft/plan"
)

func TestWays(t *testing.T) {
	c := town()
	for table, want := range [][]plan.Plan{{way(4, -1), way(1, 3), way(1, 5)}, {way(0, -1)}, {way(2, -1), way(6, -1)}} {
		wantWays(t, c, table, want)
	}
	c.Projs = append(c.Projs, api.Projection{Name: "p7", Table: 0, Columns: []int{3}, By: 3})
	wantWays(t, c, 0, []plan.Plan{way(4, -1), way(1, 3), way(1, 5), way(3, 7)})
	c.Projs[4] = c.Projs[6] // no projection has all columns of people
	c.Projs[4].Name = "p4"
	wantWays(t, c, 0, []plan.Plan{way(1, 3), way(1, 5), way(3, 7)})
}

// wantWays asks how many ways there are, and for each of them, by several numbers.
func wantWays(t *testing.T, c api.Catalog, table int, want []plan.Plan) {
	t.Helper()
	if n := plan.Many(c, table); n != len(want) {
		t.Errorf("P16.2: Many(%d): %d, want %d", table, n, len(want))
	}
	if len(want) == 0 {
		wantNone(t, c, table, 0)
		return
	}
	for i, p := range want {
		for _, round := range []int{0, 1, 2, 77, -1, -2, -77} {
			wantChoose(t, c, table, i+round*len(want), p)
		}
	}
}

// The greatest and the least picks, too.
func TestPicksAtTheEnds(t *testing.T) {
	c := town() // three ways: 2^63 is 3 n + 2
	wantChoose(t, c, 0, math.MaxInt, way(1, 3))
	wantChoose(t, c, 0, math.MaxInt-1, way(4, -1))
	wantChoose(t, c, 0, math.MinInt, way(1, 3))
	wantChoose(t, c, 0, math.MinInt+1, way(1, 5))
	wantChoose(t, c, 1, math.MinInt, way(0, -1))
}

func TestNoTable(t *testing.T) {
	for _, n := range append(ends(), 3) {
		for _, pick := range []int{0, 1, -1, math.MinInt, math.MaxInt} {
			wantNone(t, town(), n, pick)
		}
	}
}

// someCatalog is one of whatever projections; most are taken by catalog.Check, not all.
func someCatalog(r *rand.Rand) api.Catalog {
	c := api.Catalog{Nodes: 1 + r.IntN(4), Segments: 1 + r.IntN(4)}
	c.K = r.IntN(c.Nodes)
	for i := range 1 + r.IntN(2) {
		t := api.Table{Name: "t" + strconv.Itoa(i)}
		for k := range 1 + r.IntN(5) {
			t.Columns = append(t.Columns, api.Column{Name: strconv.Itoa(k), Kind: 1 + r.IntN(3), Null: true})
		}
		c.Tables = append(c.Tables, t)
	}
	for i := range 1 + r.IntN(api.MaxProjs) {
		table := r.IntN(len(c.Tables))
		columns := r.Perm(len(c.Tables[table].Columns))
		columns = columns[:1+r.IntN(len(columns))]
		c.Projs = append(c.Projs, api.Projection{Name: "p" + strconv.Itoa(i), Table: table, Columns: columns, By: columns[0], Shift: r.IntN(c.Nodes)})
	}
	return c
}

// waysOf are the ways, as the chapter's words say it.
func waysOf(c api.Catalog, table int) []plan.Plan {
	has := func(l ...api.Projection) bool {
		var bits int
		for _, p := range l {
			for _, column := range p.Columns {
				bits |= 1 << column
			}
		}
		return bits == 1<<len(c.Tables[table].Columns)-1
	}
	var one, two []plan.Plan
	for i, p := range c.Projs {
		if p.Table == table && has(p) {
			one = append(one, way(i, -1))
		}
		for k, q := range c.Projs {
			if i < k && p.Table == table && q.Table == table && !has(p) && !has(q) && has(p, q) {
				two = append(two, way(i, k))
			}
		}
	}
	return append(one, two...)
}

func TestAnyWays(t *testing.T) {
	taken, several := 0, 0
	for seed := range uint64(6000) {
		c := someCatalog(rand.New(rand.NewPCG(162, seed)))
		if catalog.Check(c) != api.OK {
			continue
		}
		taken++
		for table := range c.Tables {
			want := waysOf(c, table)
			if len(want) > 2 && want[len(want)-1].Second >= 0 {
				several++
			}
			wantWays(t, c, table, want)
		}
		if t.Failed() {
			t.Fatalf("seed %d: %+v", seed, c)
		}
	}
	if taken < 1000 || several < 200 {
		t.Error("too few:", taken, several)
	}
}

// R1: of a catalog that can't be, and whatever plan and query, the calls end.
func TestCatalogsThatCannotBe(t *testing.T) {
	numbers := append(ends(), 0, 1, 2, 3)
	for seed := range uint64(4000) {
		r := rand.New(rand.NewPCG(1, seed))
		c := someCatalog(r)
		odd := func() int { return numbers[r.IntN(len(numbers))] }
		for range 1 + r.IntN(4) {
			p := &c.Projs[r.IntN(len(c.Projs))]
			switch r.IntN(9) {
			case 0:
				c.Nodes = odd()
			case 1:
				c.Segments = odd()
			case 2:
				c.K = odd()
			case 3:
				p.Table = odd()
			case 4:
				p.Columns = append(p.Columns, odd())
			case 5:
				p.Columns = nil
			case 6:
				p.By, p.Shift, p.Sort = odd(), odd(), []int{odd()}
			case 7:
				c.Tables[r.IntN(len(c.Tables))].Columns = nil
			case 8:
				c.Tables[0].Columns = append(c.Tables[0].Columns, make([]api.Column, r.IntN(100))...)
			}
		}
		if r.IntN(5) == 0 {
			c.Tables = c.Tables[1:]
		}
		l := lists(versions(version(1, 1, 0, 1, 2)), versions(version(1, 1, 0), version(2, 0, 0, 5)))
		for _, table := range numbers {
			p, _ := plan.Choose(c, table, odd())
			for _, p := range []plan.Plan{p, way(odd(), odd()), way(0, odd()), way(r.IntN(8), r.IntN(8))} {
				plan.Needs(c, p)
				plan.Full(c, p, l, 5)
			}
			plan.Check(c, api.Query{Table: table, Join: true, Right: odd(), LeftOn: odd(), RightOn: odd(), Columns: []int{odd()}})
			plan.Check(c, api.Query{Table: table, Group: true, By: []int{odd()}, Aggs: []api.Agg{{Op: r.IntN(5), Column: odd()}}})
		}
	}
	empty := api.Catalog{}
	wantNone(t, empty, 0, 0)
	wantNeeds(t, empty, way(0, 0))
	wantFull(t, "of nothing", empty, way(0, 0), nil, 1)
	wantCheck(t, "of nothing", empty, api.Query{Columns: []int{0}}, api.ErrPlanQuery)
}
