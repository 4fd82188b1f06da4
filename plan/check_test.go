package plan_test

import (
	"math"
	"slices"
	"testing"

	"hayloft/api"
	"hayloft/value"
)

// query is one that may be asked, of people alone, or of people and streets.
func query(join bool) api.Query {
	q := api.Query{Columns: []int{1, 0}, Where: []api.Term{{Column: 1, Op: api.TermAbove, Value: value.Int(3)}}, Order: []api.Order{{Column: 1}}, Limit: 5}
	if join {
		q.Join, q.Right, q.LeftOn, q.RightOn = true, 1, 3, 0
	}
	return q
}

// group is query, grouped.
func group(join bool) api.Query {
	q := query(join)
	q.Columns = nil
	q.Group, q.By, q.Aggs = true, []int{2}, []api.Agg{{Op: api.AggSum, Column: 1}}
	return q
}

// queries are some that may be asked of town.
func queries() []api.Query {
	return []api.Query{query(false), query(true), group(false), group(true)}
}

// turn makes something of a query otherwise.
type turn struct {
	what string
	of   func(q *api.Query)
}

// wantTurns asks for each of queries, with each turn.
func wantTurns(t *testing.T, l []api.Query, turns []turn, want api.Errno) {
	t.Helper()
	for _, x := range turns {
		for _, q := range l {
			x.of(&q)
			wantCheck(t, x.what, town(), q, want)
		}
	}
}

func TestCheckTakes(t *testing.T) {
	terms := slices.Repeat([]api.Term{{Column: 0, Op: api.TermFull}}, api.MaxTerms)
	wantTurns(t, queries(), []turn{
		{"as they are", func(*api.Query) {}},
		{"no Where", func(q *api.Query) { q.Where = nil }},
		{"an empty Where", func(q *api.Query) { q.Where = []api.Term{} }},
		{"as many terms as there may be", func(q *api.Query) { q.Where = terms }},
		{"no Order", func(q *api.Query) { q.Order = nil }},
		{"as many things to sort by as there may be", func(q *api.Query) { q.Order = slices.Repeat([]api.Order{{Column: 1, Down: true}}, api.MaxTerms) }},
		{"no Limit", func(q *api.Query) { q.Limit = 0 }},
		{"the greatest Limit", func(q *api.Query) { q.Limit = math.MaxInt }},
		{"a term on the last column of Table", func(q *api.Query) { q.Where = []api.Term{{Column: 3, Value: value.Text("a")}} }},
	}, api.OK)
	wantTurns(t, []api.Query{query(true), group(true)}, []turn{
		{"a term on the last column of Right", func(q *api.Query) { q.Where = []api.Term{{Column: 5, Value: value.Int(1)}} }},
		{"by other columns", func(q *api.Query) { q.LeftOn, q.RightOn = 1, 1 }},
		{"by the first ones", func(q *api.Query) { q.LeftOn, q.RightOn = 0, 0 }},
		{"with a table of one column", func(q *api.Query) { q.Right = 2 }},
		{"with itself", func(q *api.Query) { q.Right, q.LeftOn, q.RightOn = 0, 3, 0 }},
		{"the other way round", func(q *api.Query) { q.Table, q.Right, q.LeftOn, q.RightOn = 1, 0, 0, 3 }},
	}, api.OK)
	wantCheck(t, "the least query", town(), api.Query{Table: 2, Columns: []int{0}}, api.OK)
}

func TestCheckOfTables(t *testing.T) {
	for _, n := range append(ends(), 3, 4) {
		wantTurns(t, queries(), []turn{{"Table", func(q *api.Query) { q.Table = n }}}, api.ErrPlanQuery)
		wantTurns(t, queries(), []turn{{"Right", func(q *api.Query) { q.Right = n }}}, api.ErrPlanQuery)
		wantTurns(t, queries(), []turn{{"RightOn", func(q *api.Query) { q.RightOn = n }}}, api.ErrPlanQuery)
	}
	for _, n := range append(ends(), 4, 5) { // 4 and 5 are columns of both tables, not of the left one
		wantTurns(t, queries(), []turn{{"LeftOn", func(q *api.Query) { q.LeftOn = n }}}, api.ErrPlanQuery)
	}
	wantTurns(t, []api.Query{query(true), group(true)}, []turn{
		{"RightOn is the left table's alone", func(q *api.Query) { q.RightOn = 3 }},
		{"RightOn is just past the end", func(q *api.Query) { q.RightOn = 2 }},
		{"a text and an int", func(q *api.Query) { q.RightOn = 1 }},
		{"an int and a text", func(q *api.Query) { q.LeftOn = 1 }},
		{"a bool and a text", func(q *api.Query) { q.LeftOn = 2 }},
	}, api.ErrPlanQuery)
	wantTurns(t, []api.Query{query(false), group(false)}, []turn{
		{"Right of no join", func(q *api.Query) { q.Right = 1 }},
		{"LeftOn of no join", func(q *api.Query) { q.LeftOn = 1 }},
		{"RightOn of no join", func(q *api.Query) { q.RightOn = 1 }},
		{"all of no join", func(q *api.Query) { q.Right, q.LeftOn, q.RightOn = 1, 3, 0 }},
	}, api.ErrPlanQuery)
}

func TestCheckOfWhere(t *testing.T) {
	with := func(x api.Term) turn {
		return turn{"Where", func(q *api.Query) { q.Where = []api.Term{{Op: api.TermNull}, x} }}
	}
	bad := []turn{
		with(api.Term{Column: 1, Value: value.Text("a")}),
		with(api.Term{Column: 1, Value: value.Null()}),
		with(api.Term{Column: 1, Value: api.Value{Kind: api.KindInt, Bool: true}}),
		with(api.Term{Column: 6, Op: api.TermFull}),
		{"too many terms", func(q *api.Query) { q.Where = slices.Repeat([]api.Term{{Op: api.TermFull}}, api.MaxTerms+1) }},
	}
	for _, n := range ends() {
		bad = append(bad, with(api.Term{Column: n, Op: api.TermFull}), with(api.Term{Column: 1, Op: n, Value: value.Int(1)}))
	}
	wantTurns(t, queries(), bad, api.ErrPlanQuery)
	right := []turn{with(api.Term{Column: 4, Op: api.TermFull}), with(api.Term{Column: 5, Value: value.Int(1)})}
	wantTurns(t, []api.Query{query(true), group(true)}, right, api.OK)
	wantTurns(t, []api.Query{query(false), group(false)}, right, api.ErrPlanQuery)
}

func TestCheckOfColumns(t *testing.T) {
	plain := []api.Query{query(false), query(true)}
	most := slices.Repeat([]int{3, 0}, api.MaxColumns)
	wantTurns(t, plain, []turn{
		{"each column", func(q *api.Query) { q.Columns = []int{0, 1, 2, 3} }},
		{"as many as there may be", func(q *api.Query) { q.Columns = most }},
		{"empty By and Aggs", func(q *api.Query) { q.By, q.Aggs = []int{}, []api.Agg{} }},
	}, api.OK)
	bad := []turn{
		{"no Columns", func(q *api.Query) { q.Columns, q.Order = nil, nil }},
		{"empty Columns", func(q *api.Query) { q.Columns, q.Order = []int{}, nil }},
		{"too many Columns", func(q *api.Query) { q.Columns = append(slices.Clone(most), 0) }},
		{"a column behind all", func(q *api.Query) { q.Columns = []int{0, 6} }},
		{"By, not grouped", func(q *api.Query) { q.By = []int{0} }},
		{"Aggs, not grouped", func(q *api.Query) { q.Aggs = []api.Agg{{}} }},
		{"By and Aggs alone, not grouped", func(q *api.Query) { q.Columns, q.By, q.Aggs = nil, []int{0}, []api.Agg{{}} }},
	}
	for _, n := range ends() {
		bad = append(bad, turn{"a place", func(q *api.Query) { q.Columns = []int{0, n} }}, turn{"a place", func(q *api.Query) { q.Columns = []int{n, 0} }})
	}
	wantTurns(t, plain, bad, api.ErrPlanQuery)
	right := []turn{{"the right table's", func(q *api.Query) { q.Columns = []int{5, 4} }}}
	wantTurns(t, plain[1:], right, api.OK)
	wantTurns(t, plain[:1], right, api.ErrPlanQuery)
}

func TestCheckOfGroups(t *testing.T) {
	grouped := []api.Query{group(false), group(true)}
	by, aggs := slices.Repeat([]int{3}, 2*api.MaxColumns), slices.Repeat([]api.Agg{{}}, 2*api.MaxColumns)
	wantTurns(t, grouped, []turn{
		{"empty Columns", func(q *api.Query) { q.Columns = []int{} }},
		{"By alone", func(q *api.Query) { q.By, q.Aggs = []int{0, 0}, nil }},
		{"Aggs alone", func(q *api.Query) { q.By, q.Aggs = nil, []api.Agg{{}, {}} }},
		{"as many By as there may be", func(q *api.Query) { q.By, q.Aggs = by, nil }},
		{"as many Aggs as there may be", func(q *api.Query) { q.By, q.Aggs = nil, aggs }},
		{"as many together", func(q *api.Query) { q.By, q.Aggs = by[:7], aggs[:9] }},
	}, api.OK)
	bad := []turn{
		{"Columns, grouped", func(q *api.Query) { q.Columns = []int{0} }},
		{"neither By nor Aggs", func(q *api.Query) { q.By, q.Aggs, q.Order = nil, nil, nil }},
		{"Columns in the place of By and Aggs", func(q *api.Query) { q.Columns, q.By, q.Aggs = []int{0, 1}, nil, nil }},
		{"too many By", func(q *api.Query) { q.By, q.Aggs = append(slices.Clone(by), 0), nil }},
		{"too many Aggs", func(q *api.Query) { q.By, q.Aggs = nil, append(slices.Clone(aggs), api.Agg{}) }},
		{"too many together", func(q *api.Query) { q.By, q.Aggs = by[:8], aggs[:9] }},
		{"By a column behind all", func(q *api.Query) { q.By = []int{0, 6} }},
	}
	for _, n := range ends() {
		bad = append(bad, turn{"By", func(q *api.Query) { q.By = []int{0, n} }}, turn{"By", func(q *api.Query) { q.By = []int{n, 0} }})
	}
	wantTurns(t, grouped, bad, api.ErrPlanQuery)
	right := []turn{{"By the right table's", func(q *api.Query) { q.By = []int{5} }}}
	wantTurns(t, grouped[1:], right, api.OK)
	wantTurns(t, grouped[:1], right, api.ErrPlanQuery)
}

func TestCheckOfAggs(t *testing.T) {
	with := func(l ...api.Agg) turn { return turn{"Aggs", func(q *api.Query) { q.Aggs = l }} }
	var good, bad, right []turn
	for column := range 4 {
		good = append(good, with(api.Agg{Op: api.AggMin, Column: column}, api.Agg{Op: api.AggMax, Column: column}))
	}
	for _, n := range append(ends(), 6) {
		good = append(good, with(api.Agg{Op: api.AggCount, Column: n}))
		bad = append(bad, with(api.Agg{Op: api.AggSum, Column: n}), with(api.Agg{}, api.Agg{Op: api.AggMin, Column: n}), with(api.Agg{Op: api.AggMax, Column: n}, api.Agg{}))
		bad = append(bad, with(api.Agg{Op: n}), with(api.Agg{}, api.Agg{Op: n}))
	}
	bad = append(bad, with(api.Agg{Op: 4}), with(api.Agg{Op: 5, Column: 1}))
	for _, column := range []int{0, 2, 3} { // a text, a bool, a text
		bad = append(bad, with(api.Agg{Op: api.AggSum, Column: column}), with(api.Agg{Op: api.AggSum, Column: 1}, api.Agg{Op: api.AggSum, Column: column}))
	}
	right = append(right, with(api.Agg{Op: api.AggSum, Column: 5}), with(api.Agg{Op: api.AggMin, Column: 4}))
	grouped := []api.Query{group(false), group(true)}
	wantTurns(t, grouped, good, api.OK)
	wantTurns(t, grouped, bad, api.ErrPlanQuery)
	wantTurns(t, grouped[1:], right, api.OK)
	wantTurns(t, grouped[1:], []turn{with(api.Agg{Op: api.AggSum, Column: 4})}, api.ErrPlanQuery)
	wantTurns(t, grouped[:1], right, api.ErrPlanQuery)
}

// Order names places in the answer's rows, which are fewer, or more, than the tables' columns.
func TestCheckOfOrder(t *testing.T) {
	bad := []turn{
		{"just past the answer's end", func(q *api.Query) { q.Order = []api.Order{{Column: 2}} }},
		{"the second one", func(q *api.Query) { q.Order = []api.Order{{}, {Column: 3, Down: true}} }},
		{"too many", func(q *api.Query) { q.Order = make([]api.Order, api.MaxTerms+1) }},
		{"Limit -1", func(q *api.Query) { q.Limit = -1 }},
		{"the least Limit", func(q *api.Query) { q.Limit = math.MinInt }},
	}
	for _, n := range ends() {
		bad = append(bad, turn{"Order", func(q *api.Query) { q.Order = []api.Order{{Column: n}} }})
	}
	wantTurns(t, queries(), bad, api.ErrPlanQuery)
	last := turn{"the last of sixteen", func(q *api.Query) {
		q.Order = []api.Order{{Column: 15, Down: true}}
		if q.Group {
			q.By, q.Aggs = make([]int, 7), make([]api.Agg, 9)
		} else {
			q.Columns = make([]int, 16)
		}
	}}
	wantTurns(t, queries(), []turn{last}, api.OK)
	wantTurns(t, queries(), []turn{{"one less", func(q *api.Query) {
		last.of(q)
		if q.Group {
			q.By = q.By[:6]
		} else {
			q.Columns = q.Columns[:15]
		}
	}}}, api.ErrPlanQuery)
}
