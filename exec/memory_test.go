package exec_test

import (
	"slices"
	"testing"

	"hayloft/api"
	"hayloft/exec"
	"hayloft/value"
)

// spoil writes over a list and its spare room.
func spoil[T any](l []T, with T) {
	l = l[:cap(l)]
	for i := range l {
		l[i] = with
	}
}

var mark = api.Value{Kind: 77, Bool: true, Int: 77, Text: "spoilt"}

// roomy are rows, each with spare room that has something in it; still tells whether all of it stands.
func roomy(l [][]api.Value) (rows [][]api.Value, still func() bool) {
	var whole [][]api.Value
	for _, r := range l {
		whole = append(whole, append(slices.Clone(r), mark, mark, mark, mark, mark, mark))
	}
	kept := copyOf(whole)
	for i, r := range whole {
		rows = append(rows, r[:len(l[i])])
	}
	rows = append(rows, row("spare"))[:len(l)]
	return rows, func() bool {
		return same(whole, kept) && slices.Equal(rows[:len(l)+1][len(l)], row("spare")) && same(rows, l)
	}
}

// R5: rows that are handed in are not changed, nor the spare room behind them, though all that is given is written over.
func TestRowsStay(t *testing.T) {
	rows, still := roomy(some())
	for what, given := range ranges(slices.Values(rows)) {
		for r := range given {
			spoil(r, mark)
			if !still() {
				t.Fatalf("R5: %s changes rows: %v", what, rows)
			}
		}
	}
	for _, r := range exec.Sort(rows, []api.Order{{Down: true}}) {
		spoil(r, mark)
	}
	l, _ := exec.Collect(slices.Values(rows), 100)
	for _, r := range l {
		spoil(r, mark)
	}
	if !still() {
		t.Errorf("R5: changed: %v", rows)
	}
	sorted := exec.Sort(rows, nil)
	spoil(sorted, nil)
	spoil(l, nil)
	if !still() {
		t.Errorf("R5: changed: %v", rows)
	}
}

// R5: the other lists that are handed in are not changed, nor kept: what is written there afterwards is not seen.
func TestListsStayAndAreNotKept(t *testing.T) {
	rows := of(some()...).all
	places, terms := []int{1, 0, 9, 9}, []api.Term{{Op: api.TermAtLeast, Value: value.Int(2)}, {Op: 77}}
	aggs, orders := append(all(0), api.Agg{Op: 77}), []api.Order{{Down: true}, {Column: 1, Down: true}, {Column: 77}}
	keptPlaces, keptTerms, keptAggs, keptOrders := slices.Clone(places), slices.Clone(terms), slices.Clone(aggs), slices.Clone(orders)
	filtered, projected, grouped := exec.Filter(rows, terms[:1]), exec.Project(rows, places[:2]), exec.Group(rows, places[:2], aggs[:4])
	wantFiltered, wantProjected, wantGrouped := slices.Collect(filtered), slices.Collect(projected), slices.Collect(grouped)
	wantSorted := exec.Sort(some(), orders[:2])
	if !slices.Equal(places, keptPlaces) || !slices.Equal(terms, keptTerms) || !slices.Equal(aggs, keptAggs) || !slices.Equal(orders, keptOrders) {
		t.Errorf("R5: changed: %v, %v, %v, %v", places, terms, aggs, orders)
	}
	sorted := copyOf(wantSorted)
	spoil(places, 55)
	spoil(terms, api.Term{Op: 55})
	spoil(aggs, api.Agg{Op: 55})
	spoil(orders, api.Order{Column: 55})
	wantRows(t, "R5: Filter keeps terms", filtered, wantFiltered)
	wantRows(t, "R5: Project keeps places", projected, wantProjected)
	wantRows(t, "R5: Group keeps places or aggs", grouped, wantGrouped)
	if !same(sorted, wantSorted) {
		t.Errorf("R5: Sort: %v", wantSorted)
	}
	for what, l := range map[string][][]api.Value{"Filter": wantFiltered, "Project": wantProjected, "Group": wantGrouped} {
		if len(l) < 3 {
			t.Errorf("too few rows of %s: %v", what, l)
		}
	}
}

// R5, R11: no row that is given shows what is written to another one, of this time or of another.
func TestRangesGiveNewMemory(t *testing.T) {
	for what, rows := range ranges(of(some()...).all) {
		kept := slices.Collect(rows)
		want := copyOf(kept)
		var l [][]api.Value
		for r := range rows {
			l = append(l, slices.Clone(r))
			spoil(r, mark)
		}
		if !same(l, want) || !same(kept, want) {
			t.Errorf("R5: %s: written over: %v, %v; want %v", what, l, kept, want)
		}
		wantEach(t, what, kept)
	}
}

// R5: so it is of rows of any width, whatever room a list gets when it grows.
func TestWideRowsAreNew(t *testing.T) {
	for width := range 40 {
		wide := slices.Repeat(row(1), width+1)
		l := list(wide, wide, wide)
		for what, rows := range ranges(of(l...).all) {
			wantEach(t, what, slices.Collect(rows))
		}
		wantEach(t, "Join with narrow ones", slices.Collect(exec.Join(of(l...).all, of(row(1), row(1)).all, 0, 0)))
		wantEach(t, "Sort", exec.Sort(l, nil))
		var rejoined [][]api.Value
		a := []api.Version{{Row: wide}, {Row: wide}, {Row: wide}}
		for _, v := range exec.Rejoin(a, []api.Version{{Row: row(2)}}) {
			rejoined = append(rejoined, v.Row)
		}
		wantEach(t, "Rejoin", rejoined)
	}
}

// wantEach spoils one row after the other: those behind it stay as they are.
func wantEach(t *testing.T, what string, l [][]api.Value) {
	t.Helper()
	want := copyOf(l)
	for i, r := range l {
		spoil(r, mark)
		if !same(l[i+1:], want[i+1:]) {
			t.Errorf("R5: %s: row %d is seen in another one: %v", what, i, l[i+1:])
			return
		}
	}
}

// R5: a list of rows that is answered is new, and its rows share nothing.
func TestListsAreNew(t *testing.T) {
	twice := row(1, 2)
	rows := list(twice, row(0), twice, twice)
	for what, call := range map[string]func() [][]api.Value{
		"Sort": func() [][]api.Value { return exec.Sort(rows, []api.Order{{Down: true}}) },
		"Collect": func() [][]api.Value {
			l, _ := exec.Collect(slices.Values(rows), 4)
			return l
		},
	} {
		one, two := call(), call()
		want := copyOf(two)
		wantEach(t, what, one)
		spoil(one, nil)
		if !same(two, want) || !same(call(), want) || !same(rows, list(row(1, 2), row(0), row(1, 2), row(1, 2))) {
			t.Errorf("R5: %s: seen elsewhere: %v, %v", what, two, rows)
		}
		twice[0] = mark
		if !same(two, want) {
			t.Errorf("R5: %s keeps rows: %v", what, two)
		}
		twice[0] = value.Int(1)
	}
}

func TestRejoinIsNew(t *testing.T) {
	shared := append(row(7, 8), mark, mark)
	a := []api.Version{version(1, 1, 0, append(row(1), mark, mark, mark)[:1]), version(1, 1, 5, shared[:2]), version(2, 2, 0, nil), {Deleted: 77}}
	b := []api.Version{version(1, 1, 0, shared[:2]), version(2, 2, 0, append(row(3), mark)[:1]), {Deleted: 77}}
	rows := func() [][]api.Value {
		return list(a[0].Row[:4], a[1].Row[:4], b[0].Row[:4], b[1].Row[:2])
	}
	kept := copyOf(rows())
	one, two := exec.Rejoin(a[:3], b[:2]), exec.Rejoin(a[:3], b[:2])
	want := []api.Version{version(1, 1, 0, row(1, 7, 8)), version(1, 1, 5, row(7, 8, 7, 8)), version(2, 2, 0, row(3))}
	for i := range one {
		spoil(one[i].Row, mark)
		if !sameVersions(one[i+1:], want[i+1:]) {
			t.Errorf("P15.6: Rejoin: row %d is seen in another one: %v", i, one)
		}
	}
	spoil(one, api.Version{Deleted: 9})
	if !sameVersions(two, want) || !same(rows(), kept) || a[3].Deleted != 77 || b[2].Deleted != 77 || a[1].Deleted != 5 {
		t.Errorf("R5: Rejoin: seen elsewhere: %v, %v, %v", two, a, b)
	}
	spoil(shared, mark)
	spoil(a[0].Row, mark)
	spoil(b[1].Row, mark)
	if !sameVersions(two, want) {
		t.Errorf("R5: Rejoin keeps rows: %v", two)
	}
}

// A source's own rows may be written over while the answer is gone over: what came of them stays as it came.
func TestJoinOfRowsThatChange(t *testing.T) {
	left, right := list(row(1, "l"), row(1, "m")), list(row(1, "r"), row(1, "s"))
	var l [][]api.Value
	for r := range exec.Join(slices.Values(left), slices.Values(right), 0, 0) {
		l = append(l, r)
		left[0][1], right[0][1], right[1][1] = mark, mark, mark
	}
	if want := list(row(1, "l", 1, "r"), row(1, "l", 1, "s"), row(1, "m", 1, "r"), row(1, "m", 1, "s")); !same(l, want) {
		t.Errorf("R5: Join of rows that change: %v, want %v", l, want)
	}
}
