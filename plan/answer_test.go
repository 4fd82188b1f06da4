package plan_test

import (
	"math"
	"math/rand/v2"
	"slices"
	"testing"

	"hayloft/api"
	"hayloft/exec"
	"hayloft/expr"
	"hayloft/plan"
	"hayloft/value"
)

func count() []api.Agg { return []api.Agg{{Op: api.AggCount}} }

// people and streets are rows of town's tables.
func people() [][]api.Value {
	return list(row("Dan", 7, true, "Elm"), row("Ann", 30, true, "Oak"), row("Bob", nil, false, "Elm"), row("Cid", 7, false, "Fir"))
}

func streets() [][]api.Value {
	return list(row("Oak", 200), row("Elm", 100), row("Ash", 50))
}

func TestAnswer(t *testing.T) {
	p := people()
	wantAnswer(t, "by whole rows", api.Query{Columns: []int{1, 0}}, p, nil, list(row(nil, "Bob"), row(7, "Cid"), row(7, "Dan"), row(30, "Ann")))
	wantAnswer(t, "a column twice", api.Query{Columns: []int{0, 0}}, p[:1], nil, list(row("Dan", "Dan")))
	down := []api.Order{{Column: 1, Down: true}}
	wantAnswer(t, "sorted", api.Query{Columns: []int{0, 1}, Order: down}, p, nil, list(row("Ann", 30), row("Cid", 7), row("Dan", 7), row("Bob", nil)))
	wantAnswer(t, "the first three", api.Query{Columns: []int{0, 1}, Order: down, Limit: 3}, p, nil, list(row("Ann", 30), row("Cid", 7), row("Dan", 7)))
	where := []api.Term{{Column: 1, Op: api.TermAtMost, Value: value.Int(7)}}
	wantAnswer(t, "filtered by a column that is not told", api.Query{Columns: []int{0}, Where: where}, p, nil, list(row("Cid"), row("Dan")))
	wantAnswer(t, "filtered, the first", api.Query{Columns: []int{0}, Where: where, Limit: 1}, p, nil, list(row("Cid")))
	wantAnswer(t, "rows twice", api.Query{Columns: []int{1}}, p, nil, list(row(nil), row(7), row(7), row(30)))
	wantAnswer(t, "no rows", api.Query{Columns: []int{1}}, nil, nil, nil)
	wantAnswer(t, "right is not asked", api.Query{Columns: []int{0, 4}}, p[:1], streets(), list(row("Dan", nil)))
	wantAnswer(t, "By and Aggs are not asked", api.Query{Columns: []int{0}, By: []int{1}, Aggs: count()}, p[:1], nil, list(row("Dan")))
}

func TestAnswerOfGroups(t *testing.T) {
	p := people()
	q := api.Query{Group: true, By: []int{3}, Aggs: []api.Agg{{Op: api.AggCount}, {Op: api.AggSum, Column: 1}, {Op: api.AggMin}}}
	wantAnswer(t, "by streets", q, p, nil, list(row("Elm", 2, 7, "Bob"), row("Fir", 1, 7, "Cid"), row("Oak", 1, 30, "Ann")))
	q.Order = []api.Order{{Column: 2, Down: true}, {Column: 1, Down: true}}
	wantAnswer(t, "sorted by what is told", q, p, nil, list(row("Oak", 1, 30, "Ann"), row("Elm", 2, 7, "Bob"), row("Fir", 1, 7, "Cid")))
	q.Limit = 1
	wantAnswer(t, "the first", q, p, nil, list(row("Oak", 1, 30, "Ann")))
	q.Where = []api.Term{{Column: 2, Value: value.Bool(false)}}
	wantAnswer(t, "filtered ahead of it", q, p, nil, list(row("Fir", 1, 7, "Cid")))
	wantAnswer(t, "of no rows", q, nil, nil, nil)
	all := api.Query{Group: true, Aggs: []api.Agg{{Op: api.AggCount}, {Op: api.AggSum, Column: 1}}}
	wantAnswer(t, "all rows", all, p, nil, list(row(4, 44)))
	wantAnswer(t, "no rows are a group too", all, nil, nil, list(row(0, nil)))
	all.Columns = []int{0}
	wantAnswer(t, "Columns are not asked", all, p, nil, list(row(4, 44)))
	wantAnswer(t, "By alone", api.Query{Group: true, By: []int{2}}, p, nil, list(row(false), row(true)))
}

func TestAnswerOfJoins(t *testing.T) {
	q := api.Query{Join: true, Right: 1, LeftOn: 3, RightOn: 0, Columns: []int{0, 4, 5}}
	wantAnswer(t, "people and streets", q, people(), streets(), list(row("Ann", "Oak", 200), row("Bob", "Elm", 100), row("Dan", "Elm", 100)))
	q.Where = []api.Term{{Column: 5, Op: api.TermBelow, Value: value.Int(200)}, {Column: 1, Op: api.TermFull}}
	wantAnswer(t, "filtered by both", q, people(), streets(), list(row("Dan", "Elm", 100)))
	wantAnswer(t, "no left", q, nil, streets(), nil)
	wantAnswer(t, "no right", q, people(), nil, nil)
	q = api.Query{Join: true, Right: 1, LeftOn: 3, Group: true, By: []int{4}, Aggs: []api.Agg{{Op: api.AggSum, Column: 5}}, Order: []api.Order{{Column: 1}}}
	wantAnswer(t, "grouped", q, people(), streets(), list(row("Elm", 200), row("Oak", 200)))
	wantAnswer(t, "nulls are not joined", api.Query{Join: true, Columns: []int{0, 1}}, list(row(nil), row(1)), list(row(nil), row(1), row(1)), list(row(1, 1), row(1, 1)))
}

// A Limit that is not above 0 is none; one that is above how many there are cuts nothing.
func TestAnswerOfLimits(t *testing.T) {
	rows := list(row(2), row(3), row(1))
	want := list(row(1), row(2), row(3))
	for _, limit := range []int{0, -1, math.MinInt, 3, 4, math.MaxInt} {
		wantAnswer(t, "all", api.Query{Columns: []int{0}, Limit: limit}, rows, nil, want)
	}
	for limit := 1; limit < 3; limit++ {
		wantAnswer(t, "some", api.Query{Columns: []int{0}, Limit: limit}, rows, nil, want[:limit])
	}
}

// numbers are rows 0, 1, 2 and so on, each with how it is divided by 10.
func numbers(many int) [][]api.Value {
	var l [][]api.Value
	for i := range many {
		l = append(l, row(i, i%10))
	}
	return l
}

func TestMaxAnswer(t *testing.T) {
	q := api.Query{Columns: []int{0, 1}}
	wantAnswer(t, "as many as there may be", q, numbers(api.MaxAnswer), nil, numbers(api.MaxAnswer))
	wantMany(t, "one more", q, numbers(api.MaxAnswer+1), nil)
	q.Limit = 1
	wantMany(t, "one more, though one is asked for", q, numbers(api.MaxAnswer+1), nil)
	wantAnswer(t, "as many as there may be, the first", q, numbers(api.MaxAnswer), nil, numbers(1))
	q.Where = []api.Term{{Column: 0, Op: api.TermUnlike, Value: value.Int(5)}}
	q.Limit = 6
	wantAnswer(t, "one more, one of which goes", q, numbers(api.MaxAnswer+1), nil, slices.Delete(numbers(7), 5, 6))
	wantMany(t, "two more, one of which goes", q, numbers(api.MaxAnswer+2), nil)

	groups := api.Query{Group: true, By: []int{0, 1}}
	wantAnswer(t, "as many groups as there may be", groups, numbers(api.MaxAnswer), nil, numbers(api.MaxAnswer))
	wantMany(t, "a group more", groups, numbers(api.MaxAnswer+1), nil)
	groups.Limit = 1
	wantMany(t, "a group more, though one is asked for", groups, numbers(api.MaxAnswer+1), nil)
}

// What a query is asked of may be more than what it answers, and, without a join, than a join gives.
func TestManyRows(t *testing.T) {
	wantAnswer(t, "rows past all bounds", api.Query{Group: true, Aggs: count()}, numbers(api.MaxJoin+10), nil, list(row(api.MaxJoin+10)))
	few := api.Query{Columns: []int{0}, Where: []api.Term{{Column: 0, Op: api.TermBelow, Value: value.Int(2)}}}
	wantAnswer(t, "rows past all bounds, filtered", few, numbers(api.MaxJoin+10), nil, list(row(0), row(1)))
	one := api.Query{Join: true, Columns: []int{0}, LeftOn: 0, RightOn: 0}
	wantAnswer(t, "rows past all bounds, few of which are joined", one, numbers(api.MaxJoin+10), list(row(7), row(-1)), list(row(7)))
	wantAnswer(t, "the other way round", one, list(row(7), row(-1)), numbers(api.MaxJoin+10), list(row(7)))
}

func TestMaxJoin(t *testing.T) {
	alike := func(many int) [][]api.Value { return slices.Repeat(list(row(1)), many) }
	q := api.Query{Join: true, Group: true, Aggs: count()}
	wantAnswer(t, "as many as there may be", q, alike(256), alike(256), list(row(api.MaxJoin)))
	wantAnswer(t, "as many, one by one", q, alike(api.MaxJoin), alike(1), list(row(api.MaxJoin)))
	wantMany(t, "one more, on the left", q, alike(api.MaxJoin+1), alike(1))
	wantMany(t, "one more, on the right", q, alike(1), alike(api.MaxJoin+1))
	wantMany(t, "many more", q, alike(5000), alike(5000))
	q.Where = []api.Term{{Column: 0, Op: api.TermNull}}
	wantAnswer(t, "as many, all of which go", q, alike(256), alike(256), list(row(0)))
	wantMany(t, "one more, though all of them go", q, alike(api.MaxJoin+1), alike(1))
	q = api.Query{Join: true, Columns: []int{0}, Limit: 1}
	wantMany(t, "more than an answer's", q, alike(4097), alike(1))
	wantAnswer(t, "as many as an answer's", q, alike(1024), alike(4), list(row(1)))
}

// answerOf is Answer, as the chapter's words say it.
func answerOf(q api.Query, left, right [][]api.Value) [][]api.Value {
	rows := left
	if q.Join {
		rows = nil
		for _, a := range left {
			for _, b := range right {
				if x, y := a[q.LeftOn], b[q.RightOn]; x == y && x != value.Null() {
					rows = append(rows, slices.Concat(a, b))
				}
			}
		}
	}
	var out [][]api.Value
	for _, r := range rows {
		if !expr.All(q.Where, r) {
			continue
		}
		if q.Group {
			out = append(out, r)
			continue
		}
		var cells []api.Value
		for _, column := range q.Columns {
			cells = append(cells, r[column])
		}
		out = append(out, cells)
	}
	if q.Group {
		out = slices.Collect(exec.Group(slices.Values(out), q.By, q.Aggs))
	}
	out = exec.Sort(out, q.Order)
	if q.Limit > 0 {
		out = out[:min(q.Limit, len(out))]
	}
	return out
}

// someRows are of three columns each, of few values.
func someRows(r *rand.Rand) [][]api.Value {
	l := make([][]api.Value, r.IntN(12))
	some := row(nil, 1, 2, 3, "a", "b", true)
	for i := range l {
		for range 3 {
			l[i] = append(l[i], some[r.IntN(len(some))])
		}
	}
	return l
}

func somePlaces(r *rand.Rand, columns int) []int {
	l := make([]int, r.IntN(4))
	for i := range l {
		l[i] = r.IntN(columns)
	}
	return l
}

// someQuery is of such rows; all of its places are there.
func someQuery(r *rand.Rand) api.Query {
	q, columns := api.Query{Limit: r.IntN(8) - 2}, 3
	if r.IntN(2) == 0 {
		q.Join, q.LeftOn, q.RightOn, columns = true, r.IntN(3), r.IntN(3), 6
	}
	for range r.IntN(3) {
		q.Where = append(q.Where, api.Term{Column: r.IntN(columns), Op: r.IntN(8), Value: value.Int(r.Int64N(4))})
	}
	for range r.IntN(3) {
		q.Order = append(q.Order, api.Order{Column: r.IntN(3), Down: r.IntN(2) == 0})
	}
	q.Columns, q.By = somePlaces(r, columns), somePlaces(r, columns)
	for range r.IntN(4) {
		q.Aggs = append(q.Aggs, api.Agg{Op: r.IntN(4), Column: r.IntN(columns)})
	}
	q.Group = r.IntN(2) == 0
	return q
}

func TestAnyAnswer(t *testing.T) {
	several := 0
	for seed := range uint64(8000) {
		r := rand.New(rand.NewPCG(164, seed))
		q, left, right := someQuery(r), someRows(r), someRows(r)
		want := answerOf(q, left, right)
		wantAnswer(t, "any rows", q, left, right, want)
		if t.Failed() {
			t.Fatalf("seed %d: %+v; %v; %v", seed, q, left, right)
		}
		if len(want) > 1 {
			several++
		}
	}
	if several < 2000 {
		t.Error("too few:", several)
	}
}

// R1: whatever a query says, and whatever rows have, the call ends.
func TestAnyQuery(t *testing.T) {
	odd := list(nil, row(), row(1), row(api.Value{Kind: 9, Int: 1}, api.Value{Text: "a"}), row("a", 1, true, nil, 5, 6, 7, 8, 9, 10))
	for _, n := range append(ends(), 0, 1, 2, 9, 10, 20) {
		for _, join := range []bool{false, true} {
			for _, group := range []bool{false, true} {
				q := api.Query{
					Table: n, Right: n, Join: join, LeftOn: n, RightOn: n, Group: group, Limit: n,
					Columns: []int{n, 0}, By: []int{0, n}, Aggs: []api.Agg{{Op: n, Column: n}, {Op: api.AggSum, Column: n}, {Op: api.AggMax, Column: n}},
					Order: []api.Order{{Column: n, Down: true}, {Column: n}},
				}
				for _, where := range [][]api.Term{nil, {{Column: n, Op: api.TermNull}}, {{Column: 0, Op: n}}} {
					q.Where = where
					for _, right := range [][][]api.Value{nil, odd} {
						if _, e := plan.Answer(q, odd, right); e != api.OK {
							t.Errorf("P16.4: %+v: %d", q, e)
						}
					}
				}
			}
		}
	}
	l, e := plan.Answer(api.Query{}, odd, odd)
	if e != api.OK || len(l) != len(odd) || len(l[0]) != 0 {
		t.Errorf("P16.4: of no columns: %v, %d", l, e)
	}
	wantAnswer(t, "by places that are not there", api.Query{Columns: []int{5, -1, 0}}, list(row(7)), nil, list(row(nil, nil, 7)))
}
