package store_test

import (
	"math"
	"slices"
	"testing"

	"hayloft/api"
	"hayloft/disk"
	"hayloft/store"
)

// badShapes are lists of shapes that may not be.
func badShapes() map[string][]api.Shape {
	many := manyShapes(api.MaxShapes + 1)
	twice := three()
	twice[2].At = a
	m := map[string][]api.Shape{"too many": many, "an At twice": twice}
	for what, shape := range map[string]api.Shape{
		"no column":        {At: b},
		"columns below 0":  {At: b, Columns: -1},
		"the least":        {At: b, Columns: math.MinInt},
		"nine columns":     {At: b, Columns: 9},
		"the most columns": {At: b, Columns: math.MaxInt},
		"sorted by -1":     {At: b, Columns: 3, Sort: []int{-1}},
		"sorted by 3 of 3": {At: b, Columns: 3, Sort: []int{0, 3}},
		"sorted by much":   {At: b, Columns: 3, Sort: []int{math.MaxInt}},
		"sorted by 1 1":    {At: b, Columns: 3, Sort: []int{1, 1}},
		"sorted by 2 0 2":  {At: b, Columns: 3, Sort: []int{2, 0, 2}},
		"sorted by all, 0": {At: b, Columns: 1, Sort: []int{0, 0}},
	} {
		m[what] = []api.Shape{three()[0], shape}
		m[what+", first"] = []api.Shape{shape, three()[0]}
	}
	return m
}

func manyShapes(n int) []api.Shape {
	var l []api.Shape
	for i := range n {
		l = append(l, api.Shape{At: api.Segment{Proj: i % 8, Seg: i}, Columns: 1 + i%8, Sort: []int{i % 8}})
	}
	return l
}

// goodShapes are lists of shapes that may be.
func goodShapes() map[string][]api.Shape {
	return map[string][]api.Shape{
		"none": nil, "one": one(), "three": three(), "the most": manyShapes(api.MaxShapes),
		"one Proj, one Seg": {{At: api.Segment{Proj: 1, Seg: 1}, Columns: 1}, {At: api.Segment{Proj: 1, Seg: 2}, Columns: 1}, {At: api.Segment{Proj: 2, Seg: 1}, Columns: 1}},
		"sorted by all":     {{At: a, Columns: 8, Sort: []int{7, 0, 6, 1, 5, 2, 4, 3}}},
	}
}

func TestShapes(t *testing.T) {
	for what, shapes := range badShapes() {
		d := disk.New(1 << 20)
		wantErrno(t, "P11.1: Format: "+what, store.Format(d, shapes), api.ErrArg)
		if d.Steps() != 0 || len(d.Names()) != 0 {
			t.Errorf("R2: Format: %s: the disk has changed", what)
		}
		wantNotOpened(t, "of nothing, "+what, d, shapes, api.ErrArg)
		d = formatted(t, one())
		steps := d.Steps()
		wantNotOpened(t, what, d, shapes, api.ErrArg)
		d.Arm(0)
		d.Remove("x")
		d.Append("x", nil)
		wantNotOpened(t, "dead, "+what, d, shapes, api.ErrArg)
		wantErrno(t, "P11.1: Format: dead, "+what, store.Format(d, shapes), api.ErrArg)
		if d.Steps() != steps+1 {
			t.Errorf("R2: Open: %s: the disk has changed", what)
		}
	}
	for what, shapes := range goodShapes() {
		d := formatted(t, shapes)
		wantImage(t, "P11.1: "+what, d, newWorld(shapes).image())
		s := open(t, what, d, shapes)
		newWorld(shapes).want(t, what, s)
		got := s.Shapes()
		if len(got) != len(shapes) {
			t.Fatalf("P11.3: Shapes: %s: %v", what, got)
		}
		for i, shape := range shapes {
			if got[i].At != shape.At || got[i].Columns != shape.Columns || !slices.Equal(got[i].Sort, shape.Sort) {
				t.Errorf("P11.3: Shapes: %s: %v, want %v", what, got[i], shape)
			}
		}
	}
}

// What Format writes, and by which steps.
func TestFormat(t *testing.T) {
	d := formatted(t, three())
	body := slices.Concat(make([]byte, 4*8), make([]byte, 3*3), []byte{0})
	wantImage(t, "P11.1: Format", d, image{"manifest": framed(body), "redo.0": nil})
	wantImage(t, "P11.1: Format lasts", d.Crash(nil), image{"manifest": framed(body), "redo.0": nil})
	if d.Steps() != 5 {
		t.Error("P11.1: steps of Format:", d.Steps())
	}
}

// Where a step is refused its error is the answer, and nothing further is done.
func TestFormatDies(t *testing.T) {
	manifest := newWorld(three()).manifest
	wants := []image{
		{"redo.0": nil}, {"redo.0": nil}, // an Append that dies has made the file
		{"redo.0": nil, "manifest.new": manifest}, {"redo.0": nil, "manifest.new": manifest}, {"redo.0": nil, "manifest.new": manifest},
	}
	for n, want := range wants {
		d := disk.New(1 << 20)
		d.Arm(n)
		wantErrno(t, "P11.1: Format dies", store.Format(d, three()), api.ErrDiskDead)
		if d.Steps() != n+1 {
			t.Errorf("P11.1: dies at step %d: %d steps", n, d.Steps())
		}
		wantImage(t, "P11.1: Format dies", d, want)
		for _, keep := range []int{0, 5, 1 << 20} {
			wantNotOpened(t, "Format died", d.Crash([]int{keep, keep}), three(), api.ErrStoreWiped)
		}
		found := d.Crash([]int{7, 7})
		wantErrno(t, "P11.1: Format once more", store.Format(found, three()), api.OK)
		wantImage(t, "P11.1: Format once more", found, newWorld(three()).image())
	}
	d := disk.New(1 << 20)
	d.Arm(0)
	d.Append("x", nil)
	wantErrno(t, "P11.1: Format of a dead disk", store.Format(d, three()), api.ErrDiskDead)
	if d.Steps() != 1 {
		t.Error("P11.1: Format of a dead disk does something")
	}
}

// There must be room for the manifest, and no more.
func TestFormatRoom(t *testing.T) {
	size := len(newWorld(three()).manifest)
	for room := range size {
		d := disk.New(room)
		wantErrno(t, "P11.1: Format without room", store.Format(d, three()), api.ErrDiskFull)
		wantImage(t, "P11.1: Format without room", d, image{"redo.0": nil})
	}
	d := disk.New(size)
	wantErrno(t, "P11.1: Format with just the room", store.Format(d, three()), api.OK)
	s := open(t, "with just the room", d, three())
	wantErrno(t, "P11.4: Prepare without room", s.Prepare(1, api.Part{}), api.ErrDiskFull)
	newWorld(three()).want(t, "R2: refused", s)
	wantImage(t, "R2: refused", d, newWorld(three()).image())
}

// What else is on the disk stays there, but the files that Format writes.
func TestFormatOver(t *testing.T) {
	d := image{"manifest": []byte("old"), "manifest.new": []byte("older"), "redo.0": []byte("log"), "redo.1": []byte("log"), "c0": []byte("c"), "x": []byte("x")}.on(t)
	was := d.Steps()
	wantErrno(t, "P11.1: Format over others", store.Format(d, three()), api.OK)
	want := newWorld(three()).image()
	want["redo.1"], want["c0"], want["x"] = []byte("log"), []byte("c"), []byte("x")
	wantImage(t, "P11.1: Format over others", d, want)
	if d.Steps()-was != 7 {
		t.Error("P11.1: steps of Format over others:", d.Steps()-was)
	}
	s := open(t, "formatted over others", d, three())
	newWorld(three()).want(t, "formatted over others", s)
	wantImage(t, "P11.2: what is none of it is removed", d, newWorld(three()).image())

	s, d = begin(t)
	epoch(t, s, coming(insert(a, 0, 1)))
	moved(t, s, a)
	wantErrno(t, "P11.1: Format of a disk with a store", store.Format(d, three()), api.OK)
	newWorld(three()).want(t, "formatted anew", open(t, "formatted anew", d, three()))
}
