package exec_test

import (
	"slices"
	"testing"

	"hayloft/api"
	"hayloft/exec"
	"hayloft/value"
)

func TestJoin(t *testing.T) {
	left := list(row(2, "a"), row(1, "b"), row(nil, "c"), row(2, "d"), row(3), row(), row(4, "e"))
	right := list(row("x", 2), row("y", 3), row("z", 2), row("n", nil), row("short"), row("w", 1), row("v", 2), row("u", 5), row())
	want := list(
		row(2, "a", "x", 2), row(2, "a", "z", 2), row(2, "a", "v", 2),
		row(1, "b", "w", 1),
		row(2, "d", "x", 2), row(2, "d", "z", 2), row(2, "d", "v", 2),
		row(3, "y", 3),
	)
	wantRows(t, "P15.2: Join", exec.Join(of(left...).all, of(right...).all, 0, 1), want)
	wantRows(t, "P15.2: no left row", exec.Join(of().all, of(right...).all, 0, 1), nil)
	wantRows(t, "P15.2: no right row", exec.Join(of(left...).all, of().all, 0, 1), nil)
	wantRows(t, "P15.2: other places", exec.Join(of(left...).all, of(right...).all, 1, 0), nil)
	wantRows(t, "P15.2: texts", exec.Join(of(left...).all, of(row("d"), row("b", nil), row("d", 7)).all, 1, 0), list(row(1, "b", "b", nil), row(2, "d", "d"), row(2, "d", "d", 7)))
}

// A place that a row has not holds a null, and no null is joined.
func TestJoinPlaces(t *testing.T) {
	l := list(row(1), row(nil), row())
	for _, place := range append(ends(), 1, 2) {
		wantRows(t, "P15.2: no place on the left", exec.Join(of(l...).all, of(l...).all, place, 0), nil)
		wantRows(t, "P15.2: no place on the right", exec.Join(of(l...).all, of(l...).all, 0, place), nil)
		wantRows(t, "P15.2: no places", exec.Join(of(l...).all, of(l...).all, place, place), nil)
	}
	spare := slices.Values(list(row(1, 2)[:1]))
	wantRows(t, "P15.2: spare room", exec.Join(spare, spare, 1, 1), nil)
	wantRows(t, "P15.2: ahead of spare room", exec.Join(spare, spare, 0, 0), list(row(1, 1)))
}

// Each pair of values: alike is what value.Compare says, right or not; the order is left's, then right's.
func TestJoinEveryValue(t *testing.T) {
	var left, right, want [][]api.Value
	for i, v := range everyValue() {
		left = append(left, row(i, v))
		right = append(right, row(v, -i))
	}
	slices.Reverse(right)
	for _, a := range left {
		for _, b := range right {
			if a[1].Kind != api.KindNull && b[0].Kind != api.KindNull && value.Compare(a[1], b[0]) == 0 {
				want = append(want, slices.Concat(a, b))
			}
		}
	}
	wantRows(t, "P15.2: every value", exec.Join(of(left...).all, of(right...).all, 1, 0), want)
	if len(want) < len(everyValue()) {
		t.Error("too few:", len(want))
	}
}

// Many rows that are alike on both sides come in both sides' order.
func TestJoinOrder(t *testing.T) {
	var left, right, want [][]api.Value
	for i := range 60 {
		left = append(left, row(i%3, i))
		right = append(right, row(i, i%4))
	}
	for i := range 60 {
		for k := range 60 {
			if i%3 == k%4 {
				want = append(want, row(i%3, i, k, k%4))
			}
		}
	}
	wantRows(t, "P15.2: alike ones", exec.Join(of(left...).all, of(right...).all, 0, 1), want)
}

// right is gone over once, at the beginning; left as far as the answer is.
func TestJoinAsks(t *testing.T) {
	left, right := of(row(1), row(2), row(2), row(3)), of(row(2), row(2), row(1), row(2))
	joined := exec.Join(left.all, right.all, 0, 0)
	wantAsked(t, "P15.2: left, not gone over", left, 0, 0)
	wantAsked(t, "P15.2: right, not gone over", right, 0, 0)
	seen := 0
	for range joined {
		seen++
		wantAsked(t, "P15.2: right, at the beginning", right, 1, 5)
		wantAsked(t, "P15.2: left", left, 1, []int{0, 1, 2, 2, 2, 3, 3, 3}[seen])
	}
	wantAsked(t, "P15.2: left, whole", left, 1, 5)
	wantAsked(t, "P15.2: right, whole", right, 1, 5)
	if seen != 7 {
		t.Error("P15.2: rows:", seen)
	}
	for range joined {
		break
	}
	wantAsked(t, "P15.2: left, once more", left, 2, 6)
	wantAsked(t, "P15.2: right, once more", right, 2, 10)

	// The answer's beginning is at the beginning of the right rows, also where no left row comes.
	right = of(row(2), row(1))
	walk(exec.Join(of().all, right.all, 0, 0))
	wantAsked(t, "P15.2: right, no left row", right, 1, 3)
	ahead := func(yield func([]api.Value) bool) {
		wantAsked(t, "P15.2: right, ahead of left", right, 2, 6)
		yield(row(1))
	}
	wantJoined := slices.Collect(exec.Join(ahead, right.all, 0, 0))
	if !same(wantJoined, list(row(1, 1))) {
		t.Error("P15.2:", wantJoined)
	}
	if l := slices.Collect(exec.Limit(exec.Join(endless, of(row(5), row(3), row(5)).all, 0, 0), 3)); !same(l, list(row(3, 3), row(5, 5), row(5, 5))) {
		t.Error("P15.2: left that never ends:", l)
	}
}

// version is one of a name, its row and when it was deleted.
func version(epoch uint64, number uint32, deleted uint64, r []api.Value) api.Version {
	return api.Version{Id: api.RowId{Epoch: epoch, Number: number}, Row: r, Deleted: deleted}
}

func sameVersions(a, b []api.Version) bool {
	return slices.EqualFunc(a, b, func(a, b api.Version) bool {
		return a.Id == b.Id && a.Deleted == b.Deleted && slices.Equal(a.Row, b.Row)
	})
}

func wantRejoin(t *testing.T, what string, a, b, want []api.Version) {
	t.Helper()
	if l := exec.Rejoin(a, b); !sameVersions(l, want) {
		t.Errorf("P15.6: Rejoin: %s: %v, want %v", what, l, want)
	}
}

func TestRejoin(t *testing.T) {
	a := []api.Version{version(3, 0, 0, row("c")), version(1, 1, 4, row("a")), version(1, 2, 9, row("b")), version(2, 1, 0, row()), version(1, 1, 0, row("again"))}
	b := []api.Version{version(2, 1, 7, row(3, 4)), version(1, 1, 8, row(1, nil)), version(3, 1, 0, row(9)), version(1, 1, 0, row(6)), version(3, 0, 0, nil), version(0, 2, 0, row(0))}
	wantRejoin(t, "some", a, b, []api.Version{version(3, 0, 0, row("c")), version(1, 1, 4, row("a", 1, nil)), version(2, 1, 0, row(3, 4)), version(1, 1, 0, row("again", 1, nil))})
	wantRejoin(t, "turned", b, a, []api.Version{version(2, 1, 7, row(3, 4)), version(1, 1, 8, row(1, nil, "a")), version(1, 1, 0, row(6, "a")), version(3, 0, 0, row("c"))})
	wantRejoin(t, "none on the left", nil, b, nil)
	wantRejoin(t, "none on the right", a, nil, nil)
	wantRejoin(t, "spare ones", a[:2], b[:1], nil)
	wantRejoin(t, "empty lists", []api.Version{}, []api.Version{}, nil)
	wantRejoin(t, "itself", a[1:2], a[1:2], []api.Version{version(1, 1, 4, row("a", "a"))})
}

// A name is an epoch and a number, both of them, whatever they are; what values stand in a row is not asked.
func TestRejoinNames(t *testing.T) {
	numbers := []uint64{0, 1, 2, 1 << 31, 1<<32 - 1}
	var all []api.Version
	for _, e := range append(numbers, 1<<32, 1<<32+1, 1<<63, 1<<64-1) {
		for _, n := range numbers {
			all = append(all, version(e, uint32(n), e, everyValue()))
		}
	}
	for i, v := range all {
		wantRejoin(t, "each name", all, all[i:i+1], []api.Version{{Id: v.Id, Deleted: v.Deleted, Row: slices.Concat(v.Row, v.Row)}})
	}
}
