package plan_test

import (
	"slices"
	"testing"

	"hayloft/api"
	"hayloft/plan"
	"hayloft/value"
)

// spoil writes over a list and its spare room.
func spoil[T any](l []T, with T) {
	l = l[:cap(l)]
	for i := range l {
		l[i] = with
	}
}

var mark = api.Value{Kind: 77, Bool: true, Int: 77, Text: "spoilt"}

// roomyRow is a row with spare room that has something in it.
func roomyRow(l ...any) []api.Value {
	r := append(row(l...), mark, mark, mark, mark, mark, mark)
	return r[:len(l)]
}

// room is a list with its spare room.
func room[T any](l []T) []T { return slices.Clone(l[:cap(l)]) }

func rooms(l [][]api.Value) [][]api.Value {
	var out [][]api.Value
	for _, r := range l[:cap(l)] {
		out = append(out, room(r))
	}
	return out
}

// wantEach spoils one row after the other: those behind it stay as they are.
func wantEach(t *testing.T, what string, l [][]api.Value) {
	t.Helper()
	want := copyOf(l)
	for i, r := range l {
		spoil(r, mark)
		if !same(l[i+1:], want[i+1:]) {
			t.Errorf("R5: %s: row %d is seen in another one: %v", what, i, l[i+1:])
			return
		}
	}
}

// still tells of a query whether its lists, and their spare room, are what they were.
func still(q api.Query) func() bool {
	columns, where, order, by, aggs := room(q.Columns), room(q.Where), room(q.Order), room(q.By), room(q.Aggs)
	return func() bool {
		return slices.Equal(room(q.Columns), columns) && slices.Equal(room(q.Where), where) && slices.Equal(room(q.Order), order) && slices.Equal(room(q.By), by) && slices.Equal(room(q.Aggs), aggs)
	}
}

// asked are queries of rows of two ints, each of whose lists has spare room.
func asked() map[string]api.Query {
	plain := api.Query{
		Columns: append([]int{1, 0}, 77)[:2], Where: append([]api.Term{{Op: api.TermAtLeast, Value: value.Int(0)}}, api.Term{Op: 77})[:1],
		Order: append([]api.Order{{Down: true}}, api.Order{Column: 77})[:1],
	}
	limit, join, group := plain, plain, plain
	limit.Limit = 2
	join.Join = true
	group.Group, group.Columns = true, nil
	group.By, group.Aggs = append([]int{1, 0}, 77)[:2], append([]api.Agg{{Op: api.AggMax}}, api.Agg{Op: 77})[:1]
	return map[string]api.Query{"plain": plain, "limit": limit, "join": join, "group": group}
}

// R5: Answer changes neither rows nor query, whatever is written to what it answers, and keeps neither.
func TestAnswerSharesNothing(t *testing.T) {
	for what, q := range asked() {
		twice := roomyRow(1, 2)
		left := append(list(twice, roomyRow(3, 4), twice, roomyRow(5, 6)), roomyRow("spare"))[:4]
		right := append(list(roomyRow(1, 7), twice, twice), roomyRow("spare"))[:3]
		lefts, rights := rooms(left), rooms(right)
		queryStands := still(q)
		one, _ := plan.Answer(q, left, right)
		two, _ := plan.Answer(q, left, right)
		want := copyOf(two)
		if len(want) < 2 || !same(one, want) {
			t.Fatalf("R6: %s: %v and %v", what, one, two)
		}
		wantEach(t, what, one)
		spoil(one, nil)
		if !same(two, want) || !same(rooms(left), lefts) || !same(rooms(right), rights) {
			t.Errorf("R5: %s: seen elsewhere: %v, %v, %v", what, two, left, right)
		}
		if !queryStands() {
			t.Errorf("R5: %s: the query is changed: %+v", what, q)
		}
		for _, r := range slices.Concat(left, right) {
			spoil(r, mark)
		}
		spoil(left, nil)
		spoil(right, nil)
		if !same(two, want) {
			t.Errorf("R5: %s: rows are kept: %v", what, two)
		}
	}
}

// R5: Full changes no version, whatever is written to what it answers, and keeps none.
func TestFullSharesNothing(t *testing.T) {
	c := example()
	for _, p := range []plan.Plan{way(0, -1), way(1, 2), way(0, 0), way(2, 0)} {
		shared := roomyRow(1, "a")
		first := append(versions(api.Version{Id: id(2, 0), Row: shared, Deleted: 9}, api.Version{Id: id(1, 1), Row: roomyRow(2)}, api.Version{Id: id(1, 0), Row: shared}), version(1, 7, 0, 5))[:3]
		second := append(versions(api.Version{Id: id(1, 0), Row: shared}, api.Version{Id: id(2, 0), Row: shared, Deleted: 8}, api.Version{Id: id(1, 1), Row: roomyRow()}), version(1, 8, 0, 5))[:3]
		l := append(lists(first, second), versions(version(1, 9, 0, 5)))[:2]
		cells := func() [][]api.Value {
			return list(room(shared), room(first[1].Row), room(second[2].Row), room(first[:4][3].Row), room(second[:4][3].Row), room(l[:3][2][0].Row))
		}
		kept := cells()
		one, two := plan.Full(c, p, l, 5), plan.Full(c, p, l, 5)
		want := slices.Clone(two)
		for i, v := range want {
			want[i].Row = slices.Clone(v.Row)
		}
		if len(want) != 3 || !sameVersions(one, want) {
			t.Fatalf("R6: %v: %v and %v", p, one, two)
		}
		wantEach(t, "Full", rowsOf(one))
		spoil(one, api.Version{Deleted: 77})
		if !sameVersions(two, want) || !same(cells(), kept) || first[0].Deleted != 9 || second[1].Deleted != 8 || first[0].Id != id(2, 0) || first[2].Id != id(1, 0) {
			t.Errorf("R5: %v: seen elsewhere: %v, %v", p, two, l)
		}
		spoil(shared, mark)
		spoil(first[1].Row, mark)
		spoil(first, api.Version{})
		spoil(second, api.Version{})
		spoil(l, nil)
		if !sameVersions(two, want) {
			t.Errorf("R5: %v: versions are kept: %v", p, two)
		}
	}
}

func rowsOf(l []api.Version) [][]api.Value {
	var out [][]api.Value
	for _, v := range l {
		out = append(out, v.Row)
	}
	return out
}

// R5: no call changes a catalog, nor the spare room behind its lists.
func TestCatalogStays(t *testing.T) {
	c := town()
	for i, x := range c.Tables {
		c.Tables[i].Columns = append(x.Columns, api.Column{Name: "spare"}, api.Column{Name: "spare"}, api.Column{Name: "spare"})[:len(x.Columns)]
	}
	for i, x := range c.Projs {
		c.Projs[i].Columns = append(x.Columns, 77, 78, 79, 80)[:len(x.Columns)]
	}
	var columns [][]api.Column
	var places [][]int
	for _, x := range c.Tables {
		columns = append(columns, room(x.Columns))
	}
	for _, x := range c.Projs {
		places = append(places, room(x.Columns))
	}
	for _, q := range queries() {
		plan.Check(c, q)
	}
	for table := range c.Tables {
		for pick := range plan.Many(c, table) {
			p, _ := plan.Choose(c, table, pick)
			spoil(plan.Needs(c, p), seg(-9, -9))
			for _, v := range plan.Full(c, p, lists(versions(version(1, 0, 0)), nil, nil, versions(version(1, 0, 0))), 1) {
				spoil(v.Row, mark)
			}
		}
	}
	for i, x := range c.Tables {
		if !slices.Equal(room(x.Columns), columns[i]) {
			t.Errorf("R5: table %d is changed: %v", i, x)
		}
	}
	for i, x := range c.Projs {
		if !slices.Equal(room(x.Columns), places[i]) {
			t.Errorf("R5: projection %d is changed: %v", i, x)
		}
	}
}

// R5: Needs answers new memory each time.
func TestNeedsIsNew(t *testing.T) {
	c := town()
	one, two := plan.Needs(c, way(1, 3)), plan.Needs(c, way(1, 3))
	want := slices.Clone(two)
	spoil(one, seg(-9, -9))
	if len(want) != 6 || !slices.Equal(two, want) {
		t.Errorf("R5: Needs: %v", two)
	}
	wantNeeds(t, c, way(1, 3), want...)
}

// R5: Check changes nothing of a query.
func TestCheckChangesNothing(t *testing.T) {
	for what, q := range asked() {
		queryStands := still(q)
		plan.Check(example(), q)
		if !queryStands() {
			t.Errorf("R5: %s: the query is changed: %+v", what, q)
		}
	}
}
