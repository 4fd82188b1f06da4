package plan_test

import (
	"math"
	"slices"
	"testing"

	"hayloft/api"
	"hayloft/plan"
	"hayloft/value"
)

// row is one of ints, bools, texts, nulls (nil) and values as they are.
func row(l ...any) []api.Value {
	out := []api.Value{}
	for _, x := range l {
		switch x := x.(type) {
		case int:
			out = append(out, value.Int(int64(x)))
		case bool:
			out = append(out, value.Bool(x))
		case string:
			out = append(out, value.Text(x))
		case api.Value:
			out = append(out, x)
		default:
			out = append(out, value.Null())
		}
	}
	return out
}

// list is a list of rows.
func list(l ...[]api.Value) [][]api.Value { return l }

func same(a, b [][]api.Value) bool {
	return slices.EqualFunc(a, b, func(a, b []api.Value) bool { return slices.Equal(a, b) })
}

func copyOf(l [][]api.Value) [][]api.Value {
	var out [][]api.Value
	for _, r := range l {
		out = append(out, slices.Clone(r))
	}
	return out
}

func id(epoch uint64, number uint32) api.RowId { return api.RowId{Epoch: epoch, Number: number} }

// version is one with these values.
func version(epoch uint64, number uint32, deleted uint64, l ...any) api.Version {
	return api.Version{Id: id(epoch, number), Row: row(l...), Deleted: deleted}
}

func versions(l ...api.Version) []api.Version { return l }

// lists are the versions of so many segments.
func lists(l ...[]api.Version) [][]api.Version { return l }

func sameVersions(a, b []api.Version) bool {
	return slices.EqualFunc(a, b, func(a, b api.Version) bool {
		return a.Id == b.Id && a.Deleted == b.Deleted && slices.Equal(a.Row, b.Row)
	})
}

// example is the chapter's catalog.
func example() api.Catalog {
	return api.Catalog{
		Nodes: 1, Segments: 1,
		Tables: []api.Table{{Name: "t", Columns: []api.Column{{Name: "a", Kind: api.KindInt}, {Name: "b", Kind: api.KindText}}}},
		Projs: []api.Projection{
			{Name: "both", Columns: []int{0, 1}},
			{Name: "a", Columns: []int{0}},
			{Name: "b", Columns: []int{1}, By: 1},
		},
	}
}

// town has three tables: people (name, age, tall, street) in two parts that share the age, and whole; streets (name, long) whole, their columns turned round; towns (name) in two projections.
func town() api.Catalog {
	return api.Catalog{
		Nodes: 4, K: 1, Segments: 3,
		Tables: []api.Table{
			{Name: "people", Columns: []api.Column{{Name: "name", Kind: api.KindText}, {Name: "age", Kind: api.KindInt, Null: true}, {Name: "tall", Kind: api.KindBool}, {Name: "street", Kind: api.KindText}}},
			{Name: "streets", Columns: []api.Column{{Name: "name", Kind: api.KindText}, {Name: "long", Kind: api.KindInt}}},
			{Name: "towns", Columns: []api.Column{{Name: "name", Kind: api.KindText}}},
		},
		Projs: []api.Projection{
			{Name: "p0", Table: 1, Columns: []int{1, 0}, Sort: []int{1}, By: 0, Shift: 1},
			{Name: "p1", Table: 0, Columns: []int{3, 1}, By: 3, Shift: 2},
			{Name: "p2", Table: 2, Columns: []int{0}, By: 0},
			{Name: "p3", Table: 0, Columns: []int{1, 2, 0}, Sort: []int{0}, By: 2, Shift: 3},
			{Name: "p4", Table: 0, Columns: []int{2, 0, 3, 1}, By: 0},
			{Name: "p5", Table: 0, Columns: []int{2, 0}, By: 0},
			{Name: "p6", Table: 2, Columns: []int{0}, By: 0, Shift: 1},
		},
	}
}

// ends are numbers that are no place.
func ends() []int {
	return []int{-1, -2, -8, 17, 100, 1 << 32, math.MinInt, math.MinInt + 1, math.MaxInt, math.MaxInt - 1}
}

func way(first, second int) plan.Plan { return plan.Plan{First: first, Second: second} }

func wantCheck(t *testing.T, what string, c api.Catalog, q api.Query, want api.Errno) {
	t.Helper()
	if e := plan.Check(c, q); e != want {
		t.Errorf("P16.1: %s: %d, want %d: %+v", what, e, want, q)
	}
}

func wantChoose(t *testing.T, c api.Catalog, table, pick int, want plan.Plan) {
	t.Helper()
	if p, e := plan.Choose(c, table, pick); p != want || e != api.OK {
		t.Errorf("P16.2: Choose(%d, %d): %v, %d; want %v", table, pick, p, e, want)
	}
}

// wantNone asks for a table of which there is no way.
func wantNone(t *testing.T, c api.Catalog, table, pick int) {
	t.Helper()
	if p, e := plan.Choose(c, table, pick); p != (plan.Plan{}) || e != api.ErrPlanCover {
		t.Errorf("P16.2: Choose(%d, %d): %v, %d; want nothing, ErrPlanCover", table, pick, p, e)
	}
	if n := plan.Many(c, table); n != 0 {
		t.Errorf("P16.2: Many(%d): %d", table, n)
	}
}

func wantNeeds(t *testing.T, c api.Catalog, p plan.Plan, want ...api.Segment) {
	t.Helper()
	if l := plan.Needs(c, p); !slices.Equal(l, want) {
		t.Errorf("P16.3: Needs(%v): %v, want %v", p, l, want)
	}
}

func wantFull(t *testing.T, what string, c api.Catalog, p plan.Plan, l [][]api.Version, epoch uint64, want ...api.Version) {
	t.Helper()
	if got := plan.Full(c, p, l, epoch); !sameVersions(got, want) {
		t.Errorf("P16.3: %s: Full(%v) at %d: %v, want %v", what, p, epoch, got, want)
	}
}

func wantAnswer(t *testing.T, what string, q api.Query, left, right, want [][]api.Value) {
	t.Helper()
	if l, e := plan.Answer(q, left, right); e != api.OK || !same(l, want) {
		t.Errorf("P16.4: %s: %v, %d; want %v", what, l, e, want)
	}
}

func wantMany(t *testing.T, what string, q api.Query, left, right [][]api.Value) {
	t.Helper()
	if l, e := plan.Answer(q, left, right); e != api.ErrExecMany || len(l) != 0 {
		t.Errorf("P16.4: %s: %d rows, %d; want ErrExecMany", what, len(l), e)
	}
}
