package store_test

import (
	"slices"
	"testing"

	"hayloft/api"
	"hayloft/store"
)

// spoilRow writes over a row, and the spare room behind it.
func spoilRow(l []api.Value) {
	l = l[:cap(l)]
	for i := range l {
		l[i] = api.Value{Kind: api.KindText, Text: "spoilt"}
	}
}

// spoil writes over versions, their rows, and the spare room of both.
func spoil(l []api.Version) {
	l = l[:cap(l)]
	for i := range l {
		spoilRow(l[i].Row)
		l[i] = api.Version{Id: name(77, 77), Deleted: 78}
	}
}

func spoilPart(p api.Part) {
	inserts, erases := p.Inserts[:cap(p.Inserts)], p.Erases[:cap(p.Erases)]
	for i := range inserts {
		spoilRow(inserts[i].Ver.Row)
		inserts[i] = insert(nowhere, 99, 99)
	}
	for i := range erases {
		erases[i] = erase(nowhere, 99, 99)
	}
}

func spoilBytes(b []byte) {
	b = b[:cap(b)]
	for i := range b {
		b[i] ^= 255
	}
}

// R5: shapes are neither changed nor kept.
func TestShapesMemory(t *testing.T) {
	spoilt := func(l []api.Shape) {
		for i := range l {
			for k := range l[i].Sort[:cap(l[i].Sort)] {
				l[i].Sort[:cap(l[i].Sort)][k] = 7
			}
			l[i] = api.Shape{At: nowhere, Columns: 99}
		}
	}
	shapes := three()
	d := formatted(t, shapes)
	s, e := store.Open(d, shapes)
	wantErrno(t, "Open", e, api.OK)
	if !slices.EqualFunc(shapes, three(), func(x, y api.Shape) bool { return x.At == y.At && slices.Equal(x.Sort, y.Sort) }) {
		t.Error("R5: Open has changed the shapes:", shapes)
	}
	spoilt(shapes)
	first := s.Shapes()
	second := s.Shapes()
	spoilt(first)
	if !slices.EqualFunc(second, three(), func(x, y api.Shape) bool {
		return x.At == y.At && x.Columns == y.Columns && slices.Equal(x.Sort, y.Sort)
	}) {
		t.Error("R5: Shapes shows what was written to others:", second)
	}
	spoilt(second)
	p := &pair{t, s, d, newWorld(three())}
	p.prepare("behind that", 1, coming(insert(b, 0, 1)), api.OK)
	p.decide("behind that", 1, 1, api.OK)
	p.replace("behind that", b, nil, true, fileOf(t, b, p.s.Loose(b)...), api.OK)
}

// R5: a part is neither changed nor kept, not its rows, not the room behind them.
func TestPartMemory(t *testing.T) {
	p := fullPair(t)
	room := append(row(1, 5), row(1, 6)...)
	part := func() api.Part {
		l := []api.Insert{{At: a, Ver: api.Version{Id: name(0, 7), Row: room[:1]}}, {At: a, Ver: api.Version{Id: name(0, 8), Row: room[:1]}}, insert(c, 5, 5)}
		return api.Part{Inserts: l[:2], Erases: []api.Erase{erase(a, 3, 0), erase(b, 1, 0)}[:1]}
	}
	x := part()
	wantErrno(t, "Prepare", p.s.Prepare(50, x), api.OK)
	if !slices.Equal(room, append(row(1, 5), row(1, 6)...)) || x.Inserts[:3][2].At != c || x.Erases[:2][1] != erase(b, 1, 0) {
		t.Error("R5: Prepare has changed its part:", room, x)
	}
	p.w.prepare(50, api.Part{Inserts: []api.Insert{insert(a, 7, 5), insert(a, 8, 5)}, Erases: []api.Erase{erase(a, 3, 0)}})
	spoilPart(x)
	p.same("R5: a part is written to")
	p.replace("R5: a part was written to", a, nil, false, nil, api.OK)
	p.decide("R5: a part was written to", 7, 50, api.OK)
}

// R5: what is installed is neither changed nor kept; nor a file, nor places.
func TestInstallMemory(t *testing.T) {
	p := fullPair(t)
	l := []api.Held{held(a, ver(a, 7, 0, 1, 0), ver(a, 3, 0, 5, 7)), held(b, ver(b, 7, 0, 1, 0))}
	same := []api.Held{held(a, ver(a, 7, 0, 1, 0), ver(a, 3, 0, 5, 7)), held(b, ver(b, 7, 0, 1, 0))}
	wantErrno(t, "Install", p.s.Install(7, 0, false, l), api.OK)
	for i := range l {
		if l[i].At != same[i].At || !alike(l[i].Versions, same[i].Versions) {
			t.Error("R5: Install has changed:", l[i])
		}
		spoil(l[i].Versions)
		l[i] = api.Held{At: nowhere}
	}
	p.w.install(7, 0, false, same)
	p.same("R5: what was installed is written to")

	places := append(make([]int, 0, 4), 1, 0)
	file := fileOf(t, a, p.all(a, true, 0, 1)...)
	was := slices.Clone(file)
	wantErrno(t, "Replace", p.s.Replace(a, places, true, file), api.OK)
	if !slices.Equal(places, []int{1, 0}) || !slices.Equal(places[:4], []int{1, 0, 0, 0}) || !slices.Equal(file, was) {
		t.Error("R5: Replace has changed what it was given")
	}
	spoilBytes(file)
	p.w.replace(a, []int{1, 0}, true, was)
	p.same("R5: a file is written to")
}

// tellings are all lists of versions that a store answers.
func tellings(s *store.Store) [][]api.Version {
	var l [][]api.Version
	for _, at := range []api.Segment{a, b, c} {
		l = append(l, s.Versions(at), s.Loose(at), slices.Collect(s.Scan(at, 3)), slices.Collect(s.Scan(at, 6)))
		for i := range s.Containers(at) {
			l = append(l, s.Container(at, i))
		}
	}
	return l
}

// R5: no two answers share memory, nor with what is there.
func TestAnswersAreNew(t *testing.T) {
	p := fullPair(t)
	l := append(tellings(p.s), tellings(p.s)...)
	var want [][]api.Version
	for _, x := range l {
		want = append(want, deep(x))
	}
	for i := range l {
		spoil(l[i])
		for k := i + 1; k < len(l); k++ {
			wantVersions(t, "R5: an answer is seen in another", l[k], want[k]...)
		}
	}
	p.same("R5: answers are written to")
	first := p.s.Prepared()
	for i := range first[:cap(first)] {
		first[:cap(first)][i] = 5
	}
	p.same("R5: Prepared is written to")
	for v := range p.s.Scan(a, 6) {
		spoilRow(v.Row)
	}
	p.same("R11: what a range gives is written to")
	p.replace("R5: behind all that", a, []int{0, 1}, true, fileOf(t, a, p.all(a, true, 0, 1)...), api.OK)
}
