package wos_test

import (
	"slices"
	"testing"

	"hayloft/api"
	"hayloft/wos"
)

// R5: what is added is neither changed nor kept, nor the spare room behind it.
func TestAddMemory(t *testing.T) {
	room := append(ver(1, 2, 0).Row, ver(3, 4, 0).Row...)
	v := api.Version{Id: name(1, 2), Row: room[:2]}
	w := holding(t, v)
	same := api.Version{Id: name(1, 3), Row: room[:2], Deleted: 2} // two may come with one row
	wantErrno(t, "Add", w.Add(same), api.OK)
	wantErrno(t, "Add", w.Add(api.Version{Id: name(1, 4), Row: room[:0]}), api.OK)
	w.Erase(v.Id, 9)
	if v.Deleted != 0 || !slices.Equal(room, append(ver(1, 2, 0).Row, ver(3, 4, 0).Row...)) {
		t.Errorf("R5: changed: %+v, %+v", v, room)
	}
	spoilRow(v)
	row := ver(1, 2, 0).Row
	wantThere(t, "R5: kept", w, api.Version{Id: v.Id, Row: row, Deleted: 9}, api.Version{Id: same.Id, Row: row, Deleted: 2}, api.Version{Id: name(1, 4)})
}

// answers are all versions that a wos answers, but those of Take.
func answers(w *wos.Wos) []api.Version {
	l := slices.Collect(w.All())
	for _, v := range l {
		got, _ := w.Get(v.Id)
		l = append(l, got)
	}
	for epoch := range uint64(5) {
		l = slices.AppendSeq(l, w.At(epoch))
	}
	return l
}

// R5: no two answers share memory, nor with what is there.
func TestAnswersAreNew(t *testing.T) {
	w := holding(t, five()...)
	c := w.Clone()
	l := slices.Concat(answers(w), answers(c), answers(w), w.Clone().Take(), c.Clone().Take())
	want := deep(l)
	for i := range l {
		spoilRow(l[i])
		if !alike(l[i+1:], want[i+1:]) {
			t.Fatalf("R5: answer %d is seen in a later one", i)
		}
	}
	wantThere(t, "R5: answers are written to", w, five()...)
	wantThere(t, "R5: answers are written to", c, five()...)
}

// R11: what a range gives is new each time, while it goes on too.
func TestRangeMemory(t *testing.T) {
	w := holding(t, five()...)
	for what, r := range ranges(w, five()) {
		i := 0
		for v := range r.seq {
			if !alikeOne(v, r.want[i]) {
				t.Errorf("R11: %s: %+v, want %+v", what, v, r.want[i])
			}
			spoilRow(v)
			got, _ := w.Get(v.Id)
			spoilRow(got)
			i++
		}
		wantThere(t, "R11: "+what+" is written to", w, five()...)
	}
}

// R5: what Take answers is the caller's; neither a clone, nor a range that goes on, nor a later Take shows it.
func TestTakeMemory(t *testing.T) {
	w := holding(t, five()...)
	c := w.Clone()
	var got []api.Version
	for v := range w.All() {
		got = append(got, v)
		spoil(w.Take())
	}
	if !alike(got, five()) {
		t.Errorf("R5: a range shows what was written to Take's answer: %+v", got)
	}
	wantThere(t, "R5: a clone", c, five()...)
	first := c.Take()
	for _, v := range first {
		c.Add(v)
	}
	second := c.Take()
	c.Add(ver(1, 0, 0))
	c.Add(ver(1, 1, 0))
	spoil(first)
	if !alike(second, five()) {
		t.Errorf("R5: two Takes share memory: %+v", second)
	}
	spoil(second)
	wantThere(t, "R5: added behind Take", c, ver(1, 0, 0), ver(1, 1, 0))
}

func TestCloneIsAsTheWos(t *testing.T) {
	for done, do := range doings() {
		w := holding(t, five()...)
		c := w.Clone()
		wantThere(t, "R7: a clone", c, five()...)
		do(w)
		wantThere(t, "R7: the clone, while the wos does "+done, c, five()...)
		want := slices.Collect(w.All())
		do(c)
		wantThere(t, "R7: both have done "+done, c, want...)
		wantThere(t, "R7: a clone behind "+done, w.Clone(), want...)
	}
}

func TestClonesGoTheirOwnWays(t *testing.T) {
	for done, do := range doings() {
		for other, undo := range doings() {
			w := holding(t, five()...)
			c := w.Clone()
			d := c.Clone()
			do(w)
			undo(c)
			alone := holding(t, five()...)
			do(alone)
			wantThere(t, "R7: "+done+", while its clone does "+other, w, slices.Collect(alone.All())...)
			wantThere(t, "R7: a clone's clone", d, five()...)
		}
	}
}

// Both add at the same place, again and again: neither writes into the other's spare room.
func TestClonesAddAtTheSamePlace(t *testing.T) {
	var l []api.Version
	w := wos.New()
	for n := range uint32(40) {
		c := w.Clone()
		wantErrno(t, "Add", c.Add(ver(9, n, 0)), api.OK)
		wantErrno(t, "Add", w.Add(ver(1, n, 0)), api.OK)
		wantThere(t, "R7: the clone", c, append(slices.Clone(l), ver(9, n, 0))...)
		l = append(l, ver(1, n, 0))
		wantThere(t, "R7: the wos", w, l...)
	}
}

// A range over a wos sees nothing of what its clone does, and the other way round.
func TestRangeOfAClone(t *testing.T) {
	for done, do := range doings() {
		w := holding(t, five()...)
		all := w.All()
		c := w.Clone()
		do(c)
		wantGiven(t, "R7: All, while the clone does "+done, all, five())
		d := w.Clone()
		all, at := d.All(), d.At(3)
		do(w)
		wantGiven(t, "R7: the clone's All, while the wos does "+done, all, five())
		wantGiven(t, "R7: the clone's At, while the wos does "+done, at, visible(five(), 3))
	}
}
