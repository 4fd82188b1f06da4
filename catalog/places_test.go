package catalog_test

import (
	"math"
	"slices"
	"testing"

	"hayloft/api"
	"hayloft/catalog"
)

func TestSegments(t *testing.T) {
	for what, c := range catalogs() {
		var want []api.Segment
		for proj := range c.Projs {
			for n := range c.Segments {
				want = append(want, seg(proj, n))
			}
		}
		all := catalog.Segments(c)
		for range 2 {
			if l := slices.Collect(all); !slices.Equal(l, want) {
				t.Errorf("P13.2: Segments of %s: %v, want %v", what, l, want)
			}
		}
		for stop := range want {
			var l []api.Segment
			for at := range all {
				l = append(l, at)
				if len(l) == stop+1 {
					break
				}
			}
			if !slices.Equal(l, want[:stop+1]) {
				t.Errorf("R11: Segments of %s, left: %v, want %v", what, l, want[:stop+1])
			}
		}
	}
}

func TestNodes(t *testing.T) {
	c := town()
	wantNodes(t, c, seg(0, 0), 4, 0, 1)
	wantNodes(t, c, seg(0, 1), 0, 1, 2)
	wantNodes(t, c, seg(0, 3), 2, 3, 4)
	wantNodes(t, c, seg(1, 0), 0, 1, 2)
	wantNodes(t, c, seg(1, 3), 3, 4, 0)
	wantNodes(t, c, seg(6, 3), 2, 3, 4)
	wantNodes(t, full(), seg(7, 7), 6, 7, 0, 1, 2, 3, 4, 5)
	wantNodes(t, full(), seg(0, 0), 0, 1, 2, 3, 4, 5, 6, 7)
	wantNodes(t, least(), seg(0, 0), 0)

	c.K = 0
	wantNodes(t, c, seg(0, 0), 4)
	wantNodes(t, c, seg(0, 1), 0)
	c.Segments = 8 // more segments than nodes
	wantNodes(t, c, seg(0, 7), 1)
	wantNodes(t, c, seg(1, 5), 0)
}

// R10: a segment that there is not lies nowhere.
func TestNodesOfNothing(t *testing.T) {
	c := town()
	for _, n := range []int{-1, 4, 5, math.MinInt, math.MaxInt} {
		wantNodes(t, c, seg(0, n))
		wantNodes(t, c, seg(6, n))
	}
	for _, proj := range []int{-1, 7, math.MinInt, math.MaxInt} {
		wantNodes(t, c, seg(proj, 0))
		wantNodes(t, c, seg(proj, -1))
	}
}

func TestOf(t *testing.T) {
	c := town()
	wantOf(t, c, 0, seg(0, 0), seg(0, 1), seg(1, 0), seg(1, 3), seg(2, 2), seg(2, 3), seg(3, 1), seg(3, 2), seg(3, 3),
		seg(4, 0), seg(4, 1), seg(4, 2), seg(5, 2), seg(5, 3), seg(6, 0), seg(6, 1))
	wantOf(t, least(), 0, seg(0, 0))
	wantOf(t, full(), 5, slices.Collect(catalog.Segments(full()))...)
	for _, node := range []int{-1, 5, 6, math.MinInt, math.MaxInt} {
		wantOf(t, c, node) // R10
	}
	for what, c := range catalogs() {
		for node := range c.Nodes {
			var want []api.Segment
			for at := range catalog.Segments(c) {
				if slices.Contains(catalog.Nodes(c, at), node) {
					want = append(want, at)
				}
			}
			if l := catalog.Of(c, node); len(l) == 0 || !slices.Equal(l, want) {
				t.Errorf("P13.2: Of(%s, %d): %v, want %v", what, node, l, want)
			}
		}
	}
}

func TestCovered(t *testing.T) {
	c := example()
	wantCovered(t, c, false)
	wantCovered(t, c, true, true) // 1 and 2 are not live
	wantCovered(t, c, false, false, false, true)
	wantCovered(t, c, true, false, true, true)
	wantCovered(t, c, false, false, true)
	wantCovered(t, c, false, false, true, false, true) // there is no node 3
	wantCovered(t, c, true, false, true, true, false)
	wantCovered(t, c, false, false, false, false)
	wantCovered(t, c, true, true, true, true)
	wantCovered(t, least(), true, true)
	wantCovered(t, least(), false, false)
	wantCovered(t, least(), false, false, true)

	two := least() // segment 0 of one projection is on node 0, of the other on node 1
	two.Nodes = 2
	two.Projs = append(two.Projs, api.Projection{Name: "q", Columns: []int{0}, Shift: 1})
	wantCovered(t, two, true, true, true)
	wantCovered(t, two, false, true, false)
	wantCovered(t, two, false, false, true)
}

// lives are all lists of so many bools.
func lives(many int) [][]bool {
	l := make([][]bool, 1<<many)
	for bits := range l {
		for n := range many {
			l[bits] = append(l[bits], bits>>n&1 == 1)
		}
	}
	return l
}

// count is how many nodes are live.
func count(live []bool) int {
	n := 0
	for _, is := range live {
		if is {
			n++
		}
	}
	return n
}

// Of all right numbers: each segment lies on K + 1 unlike nodes; if K are away, whichever, each is still somewhere.
func TestCopies(t *testing.T) {
	taken := 0
	for nodes := 1; nodes <= api.MaxNodes; nodes++ {
		for k := range nodes {
			for segments := 1; segments <= api.MaxNodes; segments++ {
				c := town()
				c.Nodes, c.K, c.Segments = nodes, k, segments
				for i := range c.Projs {
					c.Projs[i].Shift = i * i % nodes
				}
				if catalog.Check(c) == api.OK {
					taken++
					wantUnlike(t, c)
					wantAway(t, c)
				}
			}
		}
	}
	if taken < 200 {
		t.Error("too few were taken:", taken)
	}
}

func wantUnlike(t *testing.T, c api.Catalog) {
	t.Helper()
	for at := range catalog.Segments(c) {
		l := slices.Sorted(slices.Values(catalog.Nodes(c, at)))
		if len(slices.Compact(l)) != c.K+1 || l[0] < 0 || l[c.K] >= c.Nodes {
			t.Fatalf("P13.5: %+v: %v lies on %v", c, at, catalog.Nodes(c, at))
		}
	}
}

// wantAway asks Covered of all lists of nodes that may be live.
func wantAway(t *testing.T, c api.Catalog) {
	t.Helper()
	for _, live := range lives(c.Nodes) {
		if away := c.Nodes - count(live); away <= c.K && !catalog.Covered(c, live) {
			t.Fatalf("P13.5: %+v: not covered by %v", c, live)
		}
		wantCovered(t, c, somewhere(c, live), live...)
	}
}

// somewhere is Covered, as the chapter's words say it.
func somewhere(c api.Catalog, live []bool) bool {
	for _, p := range c.Projs {
		for n := range c.Segments {
			has := false
			for j := range c.K + 1 {
				has = has || live[(n+p.Shift+j)%c.Nodes]
			}
			if !has {
				return false
			}
		}
	}
	return true
}
