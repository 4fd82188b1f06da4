package member_test

import (
	"slices"
	"testing"

	"hayloft/api"
	"hayloft/disk"
	"hayloft/member"
)

// spoilMessages writes over all that stands in messages, and into the spare room behind their lists.
func spoilMessages(l []api.Message) {
	for i := range l {
		for k := range l[i].Versions {
			spoilRow(l[i].Versions[k].Row)
		}
		for k := range l[i].Part.Inserts {
			spoilRow(l[i].Part.Inserts[k].Ver.Row)
		}
		spoil(l[i].Versions)
		spoil(l[i].Part.Inserts)
		spoil(l[i].Part.Erases)
	}
	spoil(l)
}

func spoilRow(row []api.Value) {
	row = row[:cap(row)]
	for i := range row {
		row[i] = text("spoilt")
	}
}

func spoil[T any](l []T) {
	l = l[:cap(l)]
	clear(l)
}

// roomy is a list with spare room behind its end.
func roomy[T any](l []T, rest T) []T {
	l = append(slices.Clone(l), rest, rest)
	return l[:len(l)-2]
}

func TestTakeKeepsNothing(t *testing.T) {
	m, d := begin(t, 2)
	part := api.Part{Inserts: roomy([]api.Insert{insert(at0, 0, 5)}, insert(at0, 0, 6)), Erases: roomy([]api.Erase{erase(at0, 1, 0)}, erase(at0, 2, 0))}
	x := prepare(5, 2, part)
	wantSaid(t, "P20.4: MsgPrepare", m.Take(x), vote(5, true))
	if !alikeParts(x.Part, api.Part{Inserts: []api.Insert{insert(at0, 0, 5)}, Erases: []api.Erase{erase(at0, 1, 0)}}) || part.Inserts[:2][1].Ver.Row[0].Int != 6 || part.Erases[:2][1].Id.Epoch != 2 {
		t.Error("R5: MsgPrepare: what was handed in has changed:", x.Part)
	}
	spoilMessages([]api.Message{x})
	m.Take(decide(3, 5))
	wantVersions(t, "R5: a part that was handed in", m.Store().Versions(at0), ver(1, 0, 11, 3), ver(3, 0, 5, 0))

	l := roomy(list(ver(4, 1, 8, 0), ver(4, 0, 7, 0)), ver(4, 9, 9, 0))
	first := copyOf(1, at0, 3, 4, 0, l...)
	m.Take(first)
	wantVersions(t, "R5: MsgCopy: what was handed in", l[:3], ver(4, 1, 8, 0), ver(4, 0, 7, 0), ver(4, 9, 9, 0))
	spoilMessages([]api.Message{first})
	last := copyOf(1, at1, 3, 4, 0, ver(4, 0, 9, 0))
	wantSaid(t, "P20.4: MsgCopy", m.Take(last), joined(1, 4))
	spoilMessages([]api.Message{last})
	wantHas(t, "copies that were handed in", m, d, 4, 0, list(ver(1, 0, 11, 3), ver(3, 0, 5, 0), ver(4, 0, 7, 0), ver(4, 1, 8, 0)), list(grown(2), ver(4, 0, 9, 0)))
}

// What is answered is new memory, each time.
func TestAnswersAreNew(t *testing.T) {
	m, _ := begin(t, 4)
	m.Take(prepare(9, 4, coming(insert(at0, 0, 1))))
	asks := []api.Message{probe(1), scan(2, at0, 4), scan(2, at1, 4), fetch(1, 1, at0, 0, 4), fetch(1, 1, at0, 1, 4), decide(4, 4), prepare(9, 4, api.Part{}), markTo(0)}
	for _, x := range asks {
		first := m.Take(x)
		second := m.Take(x)
		want := deepMessages(first)
		spoilMessages(first)
		wantSaid(t, "R5: what was said was written over", second, want...)
		spoilMessages(second)
		wantSaid(t, "R5: what was said was written over", m.Take(x), want...)
	}
	spoilMessages(m.Tick())
	wantSaid(t, "R5: Tick", m.Tick(), hello(0, 4, false))
	wantVersions(t, "R5: what it has", m.Store().Versions(at0), grown(1), grown(3))
}

func deepMessages(l []api.Message) []api.Message {
	l = slices.Clone(l)
	for i := range l {
		l[i] = deep(l[i])
	}
	return l
}

func TestShapesAreNew(t *testing.T) {
	c := four()
	first, second := member.Shapes(c, 1), member.Shapes(c, 1)
	for i := range first {
		sort := first[i].Sort
		for k := range sort[:cap(sort)] {
			sort[:cap(sort)][k] = 7
		}
	}
	spoil(first)
	wantShapes(t, "what was told was written over", second, member.Shapes(four(), 1)...)
	wantShapes(t, "what was told was written over", member.Shapes(c, 1), member.Shapes(four(), 1)...)
}

// The catalog that was handed in may be written over; Shapes and Open do not change it.
func TestCatalogIsNotKept(t *testing.T) {
	c := four()
	m := open(t, "an empty disk", c, disk.New(1<<16), 1)
	want := four()
	if c.Tables[0].Name != want.Tables[0].Name || !slices.Equal(c.Projs[1].Columns, want.Projs[1].Columns) || !slices.Equal(c.Projs[1].Sort, want.Projs[1].Sort) {
		t.Error("R5: Open: what was handed in has changed")
	}
	for i := range c.Projs {
		spoil(c.Projs[i].Columns)
		spoil(c.Projs[i].Sort)
	}
	spoil(c.Projs)
	spoil(c.Tables)
	for _, x := range member.Shapes(four(), 1) {
		m.Take(api.Message{Kind: api.MsgCopy, To: 1, Attempt: 1, At: x.At})
	}
	if m.Wiped() {
		t.Fatal("R5: the catalog that was handed in is kept")
	}
	wantShapes(t, "of the store", m.Store().Shapes(), member.Shapes(four(), 1)...)
}

// Two members that hear the same say the same, whatever others do.
func TestOneAnswer(t *testing.T) {
	a, _ := begin(t, 3)
	b, _ := begin(t, 3)
	other, _ := begin(t, 1)
	other.Take(decide(2, 9))
	for _, x := range append(oneOfEach(), copyOf(1, at0, 0, 9, 9), copyOf(1, at1, 0, 9, 9), decide(10, 3)) {
		wantSaid(t, "R6: one answer", a.Take(deep(x)), b.Take(deep(x))...)
	}
	if other.Store().Through() != 1 || !other.Wiped() {
		t.Error("R6: another member has changed")
	}
}

// A nil list and an empty one are the same, handed in.
func TestNothingIsNil(t *testing.T) {
	c := four()
	c.Projs[2].Sort = []int{}
	wantShapes(t, "no sort columns", member.Shapes(c, 1), member.Shapes(four(), 1)...)
	m, d := begin(t, 1)
	nothing := api.Part{Inserts: []api.Insert{}, Erases: []api.Erase{}}
	wantSaid(t, "R4: MsgPrepare", m.Take(prepare(2, 1, nothing)), vote(2, true))
	wantSaid(t, "R4: MsgDecide", m.Take(decide(2, 2)), throughTold(2, 0))
	m.Take(copyOf(1, at0, 2, 3, 0, []api.Version{}...))
	wantSaid(t, "R4: MsgCopy", m.Take(copyOf(1, at1, 2, 3, 0, []api.Version{}...)), joined(1, 3))
	wantHas(t, "empty lists", m, d, 3, 0, list(grown(1)), nil)
}
