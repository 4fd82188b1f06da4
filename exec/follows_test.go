package exec_test

import (
	"iter"
	"math/rand/v2"
	"slices"
	"testing"

	"hayloft/api"
	"hayloft/exec"
	"hayloft/expr"
	"hayloft/value"
)

// draw draws one of a list.
func draw[T any](r *rand.Rand, l ...T) T { return l[r.IntN(len(l))] }

// seldom tells one time in so many that something odd is to be.
func seldom(r *rand.Rand, many int) bool { return r.IntN(many) == 0 }

// someValue is right, unless odd ones may come, too.
func someValue(r *rand.Rand, odd bool) api.Value {
	if odd && seldom(r, 5) {
		return draw(r, everyValue()...)
	}
	return draw(r, row(nil, false, true, 1, 2, 3, "a", "b")...)
}

func someRows(r *rand.Rand, odd bool) [][]api.Value {
	l := make([][]api.Value, r.IntN(14))
	for i := range l {
		l[i] = make([]api.Value, draw(r, 0, 1, 2, 3, 3, 3))
		for k := range l[i] {
			l[i][k] = someValue(r, odd)
		}
	}
	return l
}

func somePlaces(r *rand.Rand) []int {
	l := make([]int, r.IntN(4))
	for i := range l {
		l[i] = somePlace(r)
	}
	return l
}

func somePlace(r *rand.Rand) int {
	if seldom(r, 15) {
		return draw(r, ends()...)
	}
	return r.IntN(3)
}

func someAggs(r *rand.Rand) []api.Agg {
	l := make([]api.Agg, r.IntN(5))
	for i := range l {
		l[i] = api.Agg{Op: r.IntN(5), Column: somePlace(r)}
	}
	return l
}

func someOrders(r *rand.Rand) []api.Order {
	l := make([]api.Order, r.IntN(4))
	for i := range l {
		l[i] = api.Order{Column: somePlace(r), Down: r.IntN(2) == 0}
	}
	return l
}

func valueAt(r []api.Value, place int) api.Value {
	if place < 0 || place > len(r)-1 {
		return value.Null()
	}
	return r[place]
}

func valuesAt(r []api.Value, places []int) []api.Value {
	var l []api.Value
	for _, place := range places {
		l = append(l, valueAt(r, place))
	}
	return l
}

// joined is Join, as the chapter's words say it.
func joined(left, right [][]api.Value, leftOn, rightOn int) [][]api.Value {
	var l [][]api.Value
	for _, a := range left {
		for _, b := range right {
			x, y := valueAt(a, leftOn), valueAt(b, rightOn)
			if value.Compare(x, y) == 0 && x.Kind != api.KindNull && y.Kind != api.KindNull {
				l = append(l, slices.Concat(a, b))
			}
		}
	}
	return l
}

// grouped is Group, as the chapter's words say it: the groups are gathered one by one, and the least is taken each time.
func grouped(rows [][]api.Value, by []int, aggs []api.Agg) [][]api.Value {
	var keys [][]api.Value
	var groups [][][]api.Value
	if len(by) == 0 {
		keys, groups = list(row()), [][][]api.Value{nil}
	}
	for _, r := range rows {
		key := valuesAt(r, by)
		i := slices.IndexFunc(keys, func(k []api.Value) bool { return value.Rows(k, key) == 0 })
		if i < 0 {
			i = len(keys)
			keys, groups = append(keys, key), append(groups, nil)
		}
		groups[i] = append(groups[i], r)
	}
	var out [][]api.Value
	for len(keys) > 0 {
		least := 0
		for i := range keys {
			if value.Rows(keys[i], keys[least]) < 0 {
				least = i
			}
		}
		r := slices.Clone(keys[least])
		for _, agg := range aggs {
			r = append(r, aggregate(groups[least], agg))
		}
		out = append(out, r)
		keys, groups = slices.Delete(keys, least, least+1), slices.Delete(groups, least, least+1)
	}
	return out
}

func aggregate(group [][]api.Value, agg api.Agg) api.Value {
	var full []api.Value
	var sum uint64
	ints := 0
	for _, r := range group {
		v := valueAt(r, agg.Column)
		if v.Kind == api.KindInt {
			sum += uint64(v.Int)
			ints++
		}
		if v.Kind != api.KindNull {
			full = append(full, v)
		}
	}
	switch {
	case agg.Op == api.AggCount:
		return value.Int(int64(len(group)))
	case agg.Op == api.AggSum && ints > 0:
		return value.Int(int64(sum))
	case agg.Op == api.AggMin && len(full) > 0:
		return slices.MinFunc(full, value.Compare)
	case agg.Op == api.AggMax && len(full) > 0:
		return slices.MaxFunc(full, value.Compare)
	}
	return value.Null()
}

// sorted is Sort, as the chapter's words say it: each row goes behind those that are not above it.
func sorted(rows [][]api.Value, l []api.Order) [][]api.Value {
	above := func(a, b []api.Value) bool {
		for _, o := range l {
			if c := value.Compare(valueAt(a, o.Column), valueAt(b, o.Column)); c != 0 {
				return (c > 0) != o.Down
			}
		}
		return value.Rows(a, b) > 0
	}
	var out [][]api.Value
	for _, r := range rows {
		i := slices.IndexFunc(out, func(x []api.Value) bool { return above(x, r) })
		if i < 0 {
			i = len(out)
		}
		out = slices.Insert(out, i, r)
	}
	return out
}

// Whatever rows, places, terms: each call says what the chapter says.
func TestAnyRows(t *testing.T) {
	many := map[string]int{}
	check := func(what string, rows iter.Seq[[]api.Value], want [][]api.Value) {
		t.Helper()
		wantRows(t, what, rows, want)
		if len(want) > 1 {
			many[what]++
		}
	}
	for seed := range uint64(6000) {
		r := rand.New(rand.NewPCG(15, seed))
		left, right := someRows(r, true), someRows(r, true)
		terms := []api.Term{{Column: somePlace(r), Op: r.IntN(8), Value: someValue(r, true)}, {Column: r.IntN(2), Op: api.TermFull}}[:r.IntN(3)]
		places, aggs, orders, on, by := somePlaces(r), someAggs(r), someOrders(r), somePlace(r), somePlace(r)
		var filtered, projected [][]api.Value
		for _, x := range left {
			if expr.All(terms, x) {
				filtered = append(filtered, x)
			}
			projected = append(projected, valuesAt(x, places))
		}
		limit := r.IntN(16) - 1
		check("P15.1: Filter", exec.Filter(of(left...).all, terms), filtered)
		check("P15.1: Project", exec.Project(of(left...).all, places), projected)
		check("P15.1: Limit", exec.Limit(of(left...).all, limit), left[:min(max(limit, 0), len(left))])
		check("P15.2: Join", exec.Join(of(left...).all, of(right...).all, on, by), joined(left, right, on, by))
		check("P15.3: Group", exec.Group(of(left...).all, places, aggs), grouped(left, places, aggs))
		check("P15.4: Sort", slices.Values(exec.Sort(left, orders)), sorted(left, orders))
		if len(left) <= limit || len(left) == 0 {
			wantCollect(t, "any rows", of(left...), limit, left, api.OK)
		} else {
			wantCollect(t, "any rows", of(left...), limit, nil, api.ErrExecMany)
		}
		if t.Failed() {
			t.Fatalf("seed %d: %v; %v; %v; %v; %v; %v; %d, %d", seed, left, right, terms, places, aggs, orders, on, by)
		}
	}
	for what, n := range many {
		if n < 1000 {
			t.Error("too few:", what, n)
		}
	}
}

// Whatever versions: Rejoin says what the chapter says.
func TestAnyVersions(t *testing.T) {
	some := func(r *rand.Rand) []api.Version {
		var l []api.Version
		for _, x := range someRows(r, true) {
			l = append(l, version(r.Uint64N(3), r.Uint32N(4), r.Uint64N(3), x))
		}
		return l
	}
	pairs := 0
	for seed := range uint64(4000) {
		r := rand.New(rand.NewPCG(150, seed))
		a, b := some(r), some(r)
		var want []api.Version
		for _, x := range a {
			if i := slices.IndexFunc(b, func(y api.Version) bool { return x.Id == y.Id }); i >= 0 {
				want = append(want, api.Version{Id: x.Id, Row: slices.Concat(x.Row, b[i].Row), Deleted: x.Deleted})
			}
		}
		wantRejoin(t, "any versions", a, b, want)
		pairs += len(want)
	}
	if pairs < 4000 {
		t.Error("too few:", pairs)
	}
}

// P15.7: in which order rows come is not seen behind a Sort, nor in Group, as long as all values are right.
func TestOrderIsNotSeen(t *testing.T) {
	for seed := range uint64(4000) {
		r := rand.New(rand.NewPCG(157, seed))
		left, right := someRows(r, false), someRows(r, false)
		on, by := somePlace(r), somePlace(r)
		places, aggs, orders := somePlaces(r), someAggs(r), someOrders(r)
		mixedLeft, mixedRight := slices.Clone(left), slices.Clone(right)
		r.Shuffle(len(left), func(i, k int) { mixedLeft[i], mixedLeft[k] = mixedLeft[k], mixedLeft[i] })
		r.Shuffle(len(right), func(i, k int) { mixedRight[i], mixedRight[k] = mixedRight[k], mixedRight[i] })
		one, two := exec.Join(of(left...).all, of(right...).all, on, by), exec.Join(of(mixedLeft...).all, of(mixedRight...).all, on, by)
		for _, rows := range [][2]iter.Seq[[]api.Value]{{one, two}, {of(left...).all, of(mixedLeft...).all}} {
			wantRows(t, "P15.7: Group", exec.Group(rows[1], places, aggs), slices.Collect(exec.Group(rows[0], places, aggs)))
			first, _ := exec.Collect(rows[0], 1000)
			second, _ := exec.Collect(rows[1], 1000)
			if a, b := exec.Sort(first, orders), exec.Sort(second, orders); !same(a, b) {
				t.Fatalf("P15.7: Sort by %v: %v and %v", orders, a, b)
			}
		}
	}
}

// P15.7: of values that are not right, which of several alike ones stands for them is all that is seen in Group.
func TestOrderIsSeenInWhichAlone(t *testing.T) {
	alike := func(a, b [][]api.Value) bool {
		return slices.EqualFunc(a, b, func(a, b []api.Value) bool { return value.Rows(a, b) == 0 })
	}
	for seed := range uint64(4000) {
		r := rand.New(rand.NewPCG(1570, seed))
		rows := someRows(r, true)
		mixed := slices.Clone(rows)
		r.Shuffle(len(rows), func(i, k int) { mixed[i], mixed[k] = mixed[k], mixed[i] })
		places, aggs, orders := somePlaces(r), someAggs(r), someOrders(r)
		one, two := slices.Collect(exec.Group(of(rows...).all, places, aggs)), slices.Collect(exec.Group(of(mixed...).all, places, aggs))
		if !alike(one, two) {
			t.Fatalf("P15.7: Group: %v and %v", one, two)
		}
		if one, two := exec.Sort(rows, orders), exec.Sort(mixed, orders); !alike(one, two) {
			t.Fatalf("P15.7: Sort: %v and %v", one, two)
		}
	}
}
