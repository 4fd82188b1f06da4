package plan_test

import (
	"math"
	"math/rand/v2"
	"slices"
	"testing"

	"hayloft/api"
	"hayloft/catalog"
	"hayloft/plan"
	"hayloft/value"
)

func seg(proj, n int) api.Segment { return api.Segment{Proj: proj, Seg: n} }

func TestNeeds(t *testing.T) {
	c := town()
	wantNeeds(t, c, way(0, -1), seg(0, 0), seg(0, 1), seg(0, 2))
	wantNeeds(t, c, way(6, math.MinInt), seg(6, 0), seg(6, 1), seg(6, 2))
	wantNeeds(t, c, way(1, 3), seg(1, 0), seg(1, 1), seg(1, 2), seg(3, 0), seg(3, 1), seg(3, 2))
	wantNeeds(t, c, way(3, 1), seg(3, 0), seg(3, 1), seg(3, 2), seg(1, 0), seg(1, 1), seg(1, 2))
	wantNeeds(t, c, way(2, 2), seg(2, 0), seg(2, 1), seg(2, 2), seg(2, 0), seg(2, 1), seg(2, 2))
	wantNeeds(t, c, way(4, 0), seg(4, 0), seg(4, 1), seg(4, 2), seg(0, 0), seg(0, 1), seg(0, 2))
	c.Segments = api.MaxNodes
	if l := plan.Needs(c, way(5, 6)); len(l) != 2*api.MaxNodes || l[7] != seg(5, 7) || l[15] != seg(6, 7) {
		t.Errorf("P16.3: Needs: %v", l)
	}
}

// R10: a projection that there is not needs nothing.
func TestNeedsOfNothing(t *testing.T) {
	c := town()
	for _, n := range append(ends(), 7) {
		wantNeeds(t, c, way(n, -1))
		wantNeeds(t, c, way(n, n))
		wantNeeds(t, c, way(n, 2), seg(2, 0), seg(2, 1), seg(2, 2))
		wantNeeds(t, c, way(2, n), seg(2, 0), seg(2, 1), seg(2, 2))
	}
}

func TestFullOfOne(t *testing.T) {
	c := town() // projection 4: tall, name, street, age
	l := lists(
		versions(version(3, 1, 0, true, "Cid", "Elm", 7)),
		versions(version(1, 2, 0, false, "Bob", "Oak", nil), version(1, 1, 0, true, "Ann", "Elm", 30)),
		versions(version(2, 0, 0, true, "Dan", "Ash", 1)),
	)
	ann, bob := version(1, 1, 0, "Ann", 30, true, "Elm"), version(1, 2, 0, "Bob", nil, false, "Oak")
	dan, cid := version(2, 0, 0, "Dan", 1, true, "Ash"), version(3, 1, 0, "Cid", 7, true, "Elm")
	wantFull(t, "all", c, way(4, -1), l, 9, ann, bob, dan, cid)
	wantFull(t, "all", c, way(4, math.MinInt), l, 9, ann, bob, dan, cid)
	wantFull(t, "some have not come", c, way(4, -1), l, 2, ann, bob, dan)
	wantFull(t, "nothing has come", c, way(4, -1), l, 0)
	wantFull(t, "the last list is missing", c, way(4, -1), l[:2], 9, ann, bob, cid)
	wantFull(t, "all but one are missing", c, way(4, -1), l[:1], 9, cid)
	wantFull(t, "all lists are missing", c, way(4, -1), nil, 9)
	wantFull(t, "more lists than there are segments", c, way(4, -1), append(slices.Clone(l), l...), 9, ann, bob, dan, cid)
	wantFull(t, "one list is empty", c, way(4, -1), lists(nil, l[1], nil), 9, ann, bob)
}

func TestFullByEpochs(t *testing.T) {
	c := example()
	came := func(deleted uint64) [][]api.Version { return lists(versions(version(5, 0, deleted, 1, "a"))) }
	for _, x := range []struct {
		deleted, epoch uint64
		seen           bool
	}{
		{0, 4, false}, {0, 5, true}, {0, 6, true}, {0, 0, false}, {0, math.MaxUint64, true},
		{8, 4, false}, {8, 5, true}, {8, 7, true}, {8, 8, false}, {8, 9, false}, {8, math.MaxUint64, false},
		{5, 5, false}, {3, 5, false}, {math.MaxUint64, math.MaxUint64 - 1, true}, {math.MaxUint64, math.MaxUint64, false},
	} {
		var want []api.Version
		if x.seen {
			want = versions(version(5, 0, 0, 1, "a"))
		}
		wantFull(t, "one", c, way(0, -1), came(x.deleted), x.epoch, want...)
		first, second := came(x.deleted)[0], versions(version(5, 0, 0, "a"))
		wantFull(t, "the first of two", c, way(1, 2), lists(first, second), x.epoch, want...)
		second[0].Deleted, first[0].Deleted = x.deleted, 0
		wantFull(t, "the second of two", c, way(1, 2), lists(first, second), x.epoch, want...)
	}
}

// Names are in order by Epoch, then Number; those of one name stay in l's order, whatever their rows.
func TestFullInOrder(t *testing.T) {
	c := example()
	c.Segments = 2
	l := lists(
		versions(version(2, 9, 0, 1, "a"), version(1, 9, 0, 9, "z"), version(2, 9, 7, 0, "b")),
		versions(version(1, 10, 0, 4, "d"), version(2, 9, 0, 1, "a"), version(1, 9, 0, 3, "c"), version(2, 0, 0, 5, "e"), version(1, math.MaxUint32, 0, 6, "f")),
	)
	wantFull(t, "names twice", c, way(0, -1), l, 2,
		version(1, 9, 0, 9, "z"), version(1, 9, 0, 3, "c"), version(1, 10, 0, 4, "d"), version(1, math.MaxUint32, 0, 6, "f"),
		version(2, 0, 0, 5, "e"), version(2, 9, 0, 1, "a"), version(2, 9, 0, 0, "b"), version(2, 9, 0, 1, "a"))
}

// So it is of so many that a sort could mix them up.
func TestFullOfManyAlike(t *testing.T) {
	c := example()
	var whole, a, b, want []api.Version
	for i := range 1000 {
		name := uint32(i * 7 % 3)
		whole, a, b = append(whole, version(1, name, 0, i, "x")), append(a, version(1, name, 0, i)), append(b, version(1, name, 0, "x"))
	}
	for name := range uint32(3) {
		for _, v := range whole {
			if v.Id.Number == name {
				want = append(want, v)
			}
		}
	}
	wantFull(t, "of one", c, way(0, -1), lists(whole), 1, want...)
	wantFull(t, "of two", c, way(1, 2), lists(a, b), 1, want...)
}

func TestFullOfTwo(t *testing.T) {
	c := town() // projection 1: street, age; projection 3: age, tall, name
	first := lists(versions(version(2, 0, 0, "Elm", 30), version(1, 5, 0, "Oak", 4)), nil, versions(version(1, 0, 0, "Ash", nil), version(3, 3, 0, "Fir", 5)))
	second := lists(nil, versions(version(1, 0, 0, 77, true, "Ann"), version(4, 4, 0, 1, true, "Eve")), versions(version(1, 5, 0, 78, false, "Bob"), version(2, 0, 0, 79, true, "Cid")))
	ann, bob, cid := version(1, 0, 0, "Ann", nil, true, "Ash"), version(1, 5, 0, "Bob", 4, false, "Oak"), version(2, 0, 0, "Cid", 30, true, "Elm")
	both := slices.Concat(first, second)
	wantFull(t, "the age is First's", c, way(1, 3), both, 9, ann, bob, cid)
	wantFull(t, "more lists than are needed", c, way(1, 3), slices.Concat(both, second, first), 9, ann, bob, cid)
	wantFull(t, "the last list is missing", c, way(1, 3), both[:5], 9, ann)
	wantFull(t, "Second's lists are missing", c, way(1, 3), first, 9)
	wantFull(t, "all lists are missing", c, way(1, 3), nil, 9)
	wantFull(t, "some have not come", c, way(1, 3), both, 1, ann, bob)

	ann, bob, cid = version(1, 0, 0, "Ann", 77, true, "Ash"), version(1, 5, 0, "Bob", 78, false, "Oak"), version(2, 0, 0, "Cid", 79, true, "Elm")
	wantFull(t, "the other way round", c, way(3, 1), slices.Concat(second, first), 9, ann, bob, cid)
}

// Of several of a name among Second's the first that is visible is taken, for each of that name among First's.
func TestFullOfNamesTwice(t *testing.T) {
	c := example()
	c.Segments = 2
	first := lists(versions(version(1, 1, 0, 2), version(1, 0, 0, 1)), versions(version(1, 1, 0, 3), version(1, 1, 2, 4), version(1, 2, 0, 5)))
	second := lists(versions(version(1, 1, 2, "gone"), version(1, 0, 0, "x")), versions(version(1, 1, 0, "y"), version(1, 1, 0, "z")))
	wantFull(t, "at 2", c, way(1, 2), slices.Concat(first, second), 2,
		version(1, 0, 0, 1, "x"), version(1, 1, 0, 2, "y"), version(1, 1, 0, 3, "y"))
	wantFull(t, "at 1", c, way(1, 2), slices.Concat(first, second), 1,
		version(1, 0, 0, 1, "x"), version(1, 1, 0, 2, "gone"), version(1, 1, 0, 3, "gone"), version(1, 1, 0, 4, "gone"))
}

// A row that is too short is filled with nulls; of one that is too long the rest is not asked.
func TestFullOfOddRows(t *testing.T) {
	c := town()
	l := lists(versions(version(1, 0, 0), version(1, 1, 0, true), version(1, 2, 0, true, "Ann", "Elm", 3, "more", 5), version(1, 3, 0, true, "Bob", "Oak")), nil, nil)
	wantFull(t, "of one", c, way(4, -1), l, 1,
		version(1, 0, 0, nil, nil, nil, nil), version(1, 1, 0, nil, nil, true, nil), version(1, 2, 0, "Ann", 3, true, "Elm"), version(1, 3, 0, "Bob", nil, true, "Oak"))

	first := versions(version(1, 0, 0), version(1, 1, 0, "Elm"), version(1, 2, 0, "Elm", 1, "more", "still more"), version(1, 3, 0, "Oak", 2, 3))
	second := versions(version(1, 0, 0, 7, true, "Ann"), version(1, 1, 0, 7, true), version(1, 2, 0, 7, true, "Bob", "more"), version(1, 3, 0))
	wantFull(t, "of two", c, way(1, 3), lists(first, nil, nil, second), 1,
		version(1, 0, 0, "Ann", nil, true, nil), version(1, 1, 0, nil, nil, true, "Elm"), version(1, 2, 0, "Bob", 1, true, "Elm"), version(1, 3, 0, nil, 2, nil, "Oak"))

	odd := api.Value{Kind: 9, Bool: true, Int: 5, Text: "x"}
	wantFull(t, "values that are not right", example(), way(0, -1), lists(versions(version(1, 0, 0, odd, odd))), 1, version(1, 0, 0, odd, odd))
}

// A plan that is no way of a table: columns that none of its projections has are null.
func TestFullOfNoWay(t *testing.T) {
	c := example()
	l := lists(versions(version(1, 0, 0, 5, "x")), versions(version(1, 0, 0, 6, "y")))
	wantFull(t, "a part alone", c, way(1, -1), l, 1, version(1, 0, 0, 5, nil))
	wantFull(t, "a part twice", c, way(1, 1), l, 1, version(1, 0, 0, 5, nil))
	wantFull(t, "the whole twice", c, way(0, 0), l, 1, version(1, 0, 0, 5, "x"))
	wantFull(t, "a part and the whole", c, way(1, 0), l, 1, version(1, 0, 0, 5, "y"))
	wantFull(t, "the other part and the whole", c, way(2, 0), l, 1, version(1, 0, 0, 6, value.Int(5)))
	wantFull(t, "two that do not meet", c, way(1, 0), lists(l[0], versions(version(1, 1, 0, 6, "y"))), 1)
	for _, n := range append(ends(), 3) {
		wantFull(t, "no First", c, way(n, -1), l, 1)
		wantFull(t, "no First", c, way(n, 0), l, 1)
		wantFull(t, "neither", c, way(n, n), l, 1)
		if n >= 0 {
			wantFull(t, "no Second", c, way(0, n), l, 1)
		}
	}
}

// someVersions are of few names, so that these meet; some rows are too short or too long.
func someVersions(r *rand.Rand, many int) []api.Version {
	l := make([]api.Version, r.IntN(5))
	for i := range l {
		width := many
		if r.IntN(6) == 0 {
			width = r.IntN(many + 3)
		}
		l[i] = version(r.Uint64N(3), r.Uint32N(3), r.Uint64N(6))
		for range width {
			l[i].Row = append(l[i].Row, value.Int(r.Int64N(100)))
		}
	}
	return l
}

// fullOf is Full, as the chapter's words say it: column by column, each by a search.
func fullOf(c api.Catalog, p plan.Plan, l [][]api.Version, epoch uint64) []api.Version {
	var ours, theirs []api.Version
	for i, at := range plan.Needs(c, p) {
		if i >= len(l) {
			break
		}
		for _, v := range l[i] {
			if v.Id.Epoch > epoch || v.Deleted > 0 && v.Deleted <= epoch {
				continue
			}
			if at.Proj == p.First {
				ours = append(ours, v)
			} else {
				theirs = append(theirs, v)
			}
		}
	}
	var out []api.Version
	for _, v := range ours {
		other := v
		if p.Second >= 0 {
			k := slices.IndexFunc(theirs, func(x api.Version) bool { return x.Id == v.Id })
			if k < 0 {
				continue
			}
			other = theirs[k]
		}
		full := api.Version{Id: v.Id}
		for column := range c.Tables[c.Projs[p.First].Table].Columns {
			from, place := v.Row, slices.Index(c.Projs[p.First].Columns, column)
			if place < 0 {
				from, place = other.Row, slices.Index(c.Projs[p.Second].Columns, column)
			}
			cell := value.Null()
			if place < len(from) {
				cell = from[place]
			}
			full.Row = append(full.Row, cell)
		}
		k := slices.IndexFunc(out, func(x api.Version) bool {
			return x.Id.Epoch > v.Id.Epoch || x.Id.Epoch == v.Id.Epoch && x.Id.Number > v.Id.Number
		})
		if k < 0 {
			k = len(out)
		}
		out = slices.Insert(out, k, full)
	}
	return out
}

func TestAnyFull(t *testing.T) {
	ones, twos := 0, 0
	for seed := range uint64(8000) {
		r := rand.New(rand.NewPCG(163, seed))
		c := someCatalog(r)
		if catalog.Check(c) != api.OK {
			continue
		}
		p, _ := plan.Choose(c, r.IntN(len(c.Tables)), r.IntN(100))
		var l [][]api.Version
		for _, at := range plan.Needs(c, p) {
			l = append(l, someVersions(r, len(c.Projs[at.Proj].Columns)))
		}
		if r.IntN(4) == 0 {
			l = l[:r.IntN(len(l)+1)]
		} else {
			l = append(l, someVersions(r, 3))
		}
		epoch := r.Uint64N(4)
		want := fullOf(c, p, l, epoch)
		wantFull(t, "any versions", c, p, l, epoch, want...)
		if t.Failed() {
			t.Fatalf("seed %d: %+v", seed, c)
		}
		if p.Second < 0 {
			ones += len(want)
		} else {
			twos += len(want)
		}
	}
	if ones < 2000 || twos < 1000 {
		t.Error("too few:", ones, twos)
	}
}
