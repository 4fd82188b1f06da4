package member_test

import (
	"math"
	"slices"
	"testing"

	"hayloft/api"
	"hayloft/disk"
	"hayloft/member"
	"hayloft/store"
)

func alikeShapes(a, b []api.Shape) bool {
	return slices.EqualFunc(a, b, func(x, y api.Shape) bool {
		return x.At == y.At && x.Columns == y.Columns && slices.Equal(x.Sort, y.Sort)
	})
}

func wantShapes(t *testing.T, what string, got []api.Shape, want ...api.Shape) {
	t.Helper()
	if !alikeShapes(got, want) {
		t.Errorf("P20.1: %s: %+v, want %+v", what, got, want)
	}
}

func shape(proj, seg, columns int, sort ...int) api.Shape {
	return api.Shape{At: api.Segment{Proj: proj, Seg: seg}, Columns: columns, Sort: sort}
}

func TestShapes(t *testing.T) {
	for node := range 2 {
		wantShapes(t, "two", member.Shapes(two(), node), shape(0, 0, 1, 0), shape(0, 1, 1, 0))
	}
	// p's segments lie on 0 1, 1 2, 2 3; q's on 2 3, 3 0, 0 1; r's as p's.
	wantShapes(t, "node 0", member.Shapes(four(), 0), shape(0, 0, 2, 1, 0), shape(1, 1, 2, 1), shape(1, 2, 2, 1), shape(2, 0, 1))
	wantShapes(t, "node 1", member.Shapes(four(), 1), shape(0, 0, 2, 1, 0), shape(0, 1, 2, 1, 0), shape(1, 2, 2, 1), shape(2, 0, 1), shape(2, 1, 1))
	wantShapes(t, "node 2", member.Shapes(four(), 2), shape(0, 1, 2, 1, 0), shape(0, 2, 2, 1, 0), shape(1, 0, 2, 1), shape(2, 1, 1), shape(2, 2, 1))
	wantShapes(t, "node 3", member.Shapes(four(), 3), shape(0, 2, 2, 1, 0), shape(1, 0, 2, 1), shape(1, 1, 2, 1), shape(2, 2, 1))
	for _, node := range []int{-1, 4, 5, math.MaxInt, math.MinInt} {
		wantShapes(t, "no node", member.Shapes(four(), node))
	}
	turned := four() // q has b ahead of a
	turned.Projs[1].Sort = []int{1}
	wantShapes(t, "a sort column's place", member.Shapes(turned, 0)[1:2], shape(1, 1, 2, 0))
}

// badCatalogs may not be, by the errors that tell why.
func badCatalogs() map[api.Errno]api.Catalog {
	nodes, tables, projs, cover := two(), two(), two(), two()
	nodes.K = 2
	tables.Tables[0].Name = ""
	projs.Projs[0].Sort = []int{0, 0}
	cover.Projs = nil
	return map[api.Errno]api.Catalog{
		api.ErrCatalogNodes: nodes, api.ErrCatalogTable: tables, api.ErrCatalogProjection: projs, api.ErrCatalogCover: cover,
	}
}

func TestBadCatalogs(t *testing.T) {
	for want, c := range badCatalogs() {
		for _, node := range []int{0, 1, 2, -1} {
			wantShapes(t, "a catalog that may not be", member.Shapes(c, node))
			wantNotOpened(t, "a catalog that may not be", c, disk.New(100), node, want)
		}
	}
	huge := two()
	huge.Segments, huge.Nodes, huge.K = math.MaxInt, math.MaxInt, math.MaxInt-1
	wantShapes(t, "numbers without end", member.Shapes(huge, 0))
	wantNotOpened(t, "numbers without end", huge, disk.New(100), 0, api.ErrCatalogNodes)
}

func wantNotOpened(t *testing.T, what string, c api.Catalog, d *disk.Disk, node int, want api.Errno) {
	t.Helper()
	if m, e := member.Open(c, d, node); e != want || m != nil {
		t.Errorf("P20.2: %s: Open: %v, %d, want %d", what, m != nil, e, want)
	}
}

// The errors of Open, the first one of them ahead.
func TestOpenErrors(t *testing.T) {
	dead := disk.New(100)
	kill(dead)
	spoilt := formatted(t, two(), 0, 1<<16)
	spoilt.Flip("manifest", 9, 1)
	for _, node := range []int{-1, 2, 3, math.MinInt, math.MaxInt} {
		for _, d := range []*disk.Disk{disk.New(100), dead, spoilt} {
			wantNotOpened(t, "no node", two(), d, node, api.ErrArg)
		}
	}
	for node := range 2 {
		wantNotOpened(t, "a dead disk", two(), dead, node, api.ErrDiskDead)
		wantNotOpened(t, "a spoilt manifest", two(), spoilt, node, api.ErrStoreForm)
	}
	log := formatted(t, two(), 0, 1<<16)
	wantErrno(t, "a disk", log.Remove("redo.0"), api.OK)
	wantNotOpened(t, "no log", two(), log, 0, api.ErrStoreForm)
	dies := formatted(t, two(), 0, 1<<16)
	wantErrno(t, "a disk", dies.Append("rest", nil), api.OK)
	dies.Arm(0)
	wantNotOpened(t, "a disk that dies as it is tidied", two(), dies, 0, api.ErrDiskDead)
	other := formatted(t, four(), 0, 1<<16)
	wantNotOpened(t, "the disk of a node with more segments", two(), other, 0, api.ErrStoreForm)
}

func TestOpen(t *testing.T) {
	for node := range 4 {
		m := open(t, "an empty disk", four(), disk.New(100), node)
		if m.Store() != nil || !m.Wiped() {
			t.Error("P20.2: it has a store, or lacks nothing")
		}
		want := hello(0, 0, true)
		want.From, want.To = node, 4
		wantSaid(t, "P20.3: Tick", m.Tick(), want)
		m = open(t, "a formatted disk", four(), formatted(t, four(), node, 1<<16), node)
		if m.Store() == nil || m.Wiped() {
			t.Fatal("P20.2: it has no store, or lacks something")
		}
		wantShapes(t, "of the store", m.Store().Shapes(), member.Shapes(four(), node)...)
		want.Wiped = false
		wantSaid(t, "P20.3: Tick", m.Tick(), want)
	}
}

// Store is the object itself, so that what is done to it is seen.
func TestStore(t *testing.T) {
	m, d := begin(t, 1)
	if m.Store() != m.Store() {
		t.Error("P20.2: Store: two objects")
	}
	wantErrno(t, "store.Prepare", m.Store().Prepare(5, coming(insert(at0, 0, 1))), api.OK)
	wantErrno(t, "store.Decide", m.Store().Decide(2, 5), api.OK)
	wantErrno(t, "store.SetMark", m.Store().SetMark(1), api.OK)
	wantSaid(t, "P20.3: Tick", m.Tick(), hello(0, 2, false))
	wantSaid(t, "P20.4: MsgMark", m.Take(markTo(0)), throughTold(2, 1))
	s, e := store.Open(d, member.Shapes(two(), 0))
	if e != api.OK || s.Through() != 2 {
		t.Error("P20.2: it is on the disk:", e)
	}
}

func TestTick(t *testing.T) {
	m, d := begin(t, 3)
	for range 2 {
		wantSaid(t, "P20.3: Tick", m.Tick(), hello(0, 3, false))
	}
	m.Take(decide(4, 9))
	wantSaid(t, "P20.3: Tick, lost", m.Tick(), hello(0, 3, true))
	kill(d)
	wantSaid(t, "P20.3: Tick, on a dead disk", m.Tick())
}
