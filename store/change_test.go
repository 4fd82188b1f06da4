package store_test

import (
	"math"
	"strings"
	"testing"

	"hayloft/api"
	"hayloft/disk"
	"hayloft/store"
	"hayloft/value"
)

// pair is a store and the world that it must be.
type pair struct {
	t *testing.T
	s *store.Store
	d *disk.Disk
	w *world
}

func newPair(t *testing.T) *pair {
	t.Helper()
	s, d := begin(t)
	return &pair{t, s, d, newWorld(three())}
}

// fullPair has something of everything.
func fullPair(t *testing.T) *pair {
	t.Helper()
	w := full(t)
	d := w.image().on(t)
	return &pair{t, open(t, "something of everything", d, three()), d, w}
}

// same wants that the store tells what the world has, and that its files are the world's, and last.
func (p *pair) same(what string) {
	p.t.Helper()
	p.w.want(p.t, what, p.s)
	wantImage(p.t, what+": files", p.d, p.w.image())
	wantImage(p.t, what+": what lasts", p.d.Crash(nil), p.w.image())
}

// answers wants one answer of both, just that one.
func (p *pair) answers(what string, got, model, want api.Errno) {
	p.t.Helper()
	wantErrno(p.t, what+" (the model)", model, want)
	wantErrno(p.t, what, got, want)
	p.same(what)
}

func (p *pair) prepare(what string, txn uint64, x api.Part, want api.Errno) {
	p.t.Helper()
	p.answers("P11.4: "+what, p.s.Prepare(txn, x), p.w.prepare(txn, x), want)
}

func (p *pair) decide(what string, epoch, txn uint64, want api.Errno) {
	p.t.Helper()
	p.answers("P11.5: "+what, p.s.Decide(epoch, txn), p.w.decide(epoch, txn), want)
}

func (p *pair) forget(what string, txn uint64) {
	p.t.Helper()
	p.answers("P11.5: "+what, p.s.Forget(txn), p.w.forget(txn), api.OK)
}

func (p *pair) setMark(what string, mark uint64, want api.Errno) {
	p.t.Helper()
	p.answers("P11.6: "+what, p.s.SetMark(mark), p.w.setMark(mark), want)
}

func (p *pair) replace(what string, at api.Segment, drop []int, loose bool, file []byte, want api.Errno) {
	p.t.Helper()
	p.answers("P11.8: "+what, p.s.Replace(at, drop, loose, file), p.w.replace(at, drop, loose, file), want)
}

func (p *pair) install(what string, upto, mark uint64, whole bool, l []api.Held, want api.Errno) {
	p.t.Helper()
	p.answers("P11.9: "+what, p.s.Install(upto, mark, whole, l), p.w.install(upto, mark, whole, l), want)
}

func TestPrepare(t *testing.T) {
	p := newPair(t)
	p.prepare("nothing", 0, api.Part{}, api.OK)
	p.prepare("inserts", 9, coming(insert(a, 0, 1), insert(b, 0, 2), insert(c, math.MaxUint32, 3), insert(a, 7, 1)), api.OK)
	p.prepare("the greatest number", most, coming(insert(a, 0, 1)), api.OK)
	p.prepare("between", 5, coming(insert(a, 0, 8)), api.OK)
	p.decide("one of them", 1, 9, api.OK)
	p.prepare("erases", 9, going(erase(a, 1, 0), erase(b, 1, 0), erase(c, 1, math.MaxUint32), erase(a, 1, 7)), api.OK)
	p.prepare("another that erases them", 10, api.Part{Inserts: []api.Insert{insert(c, 1, 1)}, Erases: []api.Erase{erase(a, 1, 0)}}, api.OK)
	p.decide("the first of two", 2, 9, api.OK)
	p.decide("the other: what is deleted stays so", 3, 10, api.OK)
}

// Who is prepared stays as he is, whatever else is asked.
func TestPrepareTwice(t *testing.T) {
	p := newPair(t)
	p.prepare("once", 3, coming(insert(a, 0, 1)), api.OK)
	p.prepare("twice", 3, coming(insert(a, 0, 2)), api.OK)
	p.prepare("with nothing", 3, api.Part{}, api.OK)
	p.prepare("with what is refused", 3, going(erase(nowhere, 0, 0)), api.OK)
	p.d.Arm(0)
	p.d.Append("x", nil)
	wantErrno(t, "P11.4: prepared, on a dead disk", p.s.Prepare(3, api.Part{}), api.OK)
	wantErrno(t, "P11.4: refused, on a dead disk", p.s.Prepare(4, going(erase(nowhere, 0, 0))), api.ErrStorePart)
	wantErrno(t, "P11.4: on a dead disk", p.s.Prepare(4, api.Part{}), api.ErrDiskDead)
	p.w.want(t, "R2: on a dead disk", p.s)
}

func TestPrepareRefused(t *testing.T) {
	p := fullPair(t)
	withVer := func(v api.Version) api.Part { return coming(insert(b, 0, 1), api.Insert{At: a, Ver: v}) }
	withRow := func(l ...api.Value) api.Part { return withVer(api.Version{Row: l}) }
	for what, x := range map[string]api.Part{
		"an insert nowhere":        coming(insert(nowhere, 0, 1)),
		"nowhere, behind others":   coming(insert(a, 0, 1), insert(nowhere, 0, 1)),
		"no value":                 withRow(),
		"two values":               withRow(value.Int(1), value.Int(2)),
		"nine values":              coming(api.Insert{At: c, Ver: api.Version{Row: row(9, 1)}}),
		"many values":              withRow(make([]api.Value, 100)...),
		"no kind":                  withRow(api.Value{Kind: 4}),
		"a kind below 0":           withRow(api.Value{Kind: -1}),
		"an int with a text":       withRow(api.Value{Kind: api.KindInt, Text: "x"}),
		"a null with an int":       withRow(api.Value{Int: 1}),
		"a text of 65 bytes":       withRow(value.Text(strings.Repeat("x", 65))),
		"an epoch":                 withVer(ver(a, 1, 0, 1, 0)),
		"the next epoch":           withVer(ver(a, 7, 0, 1, 0)),
		"the greatest epoch":       withVer(ver(a, most, 0, 1, 0)),
		"deleted":                  withVer(ver(a, 0, 0, 1, 1)),
		"deleted at the next":      withVer(ver(a, 0, 0, 1, 7)),
		"a number twice":           coming(insert(a, 1, 1), insert(a, 1, 1)),
		"a number twice, apart":    coming(insert(a, 1, 1), insert(b, 1, 1), insert(a, 0, 1), insert(a, 1, 2)),
		"an erase nowhere":         going(erase(nowhere, 1, 0)),
		"of the wrong segment":     going(erase(b, 3, 0)),
		"no such number":           going(erase(a, 3, 1)),
		"no such epoch":            going(erase(a, 4, 0)),
		"epoch 0":                  going(erase(a, 0, 0)),
		"the next epoch's":         going(erase(a, 7, 0)),
		"what it inserts":          {Inserts: []api.Insert{insert(a, 0, 1)}, Erases: []api.Erase{erase(a, 0, 0)}},
		"deleted, loose":           going(erase(a, 2, 8)),
		"deleted in a file":        going(erase(a, 1, 1)),
		"erased of a file":         going(erase(a, 1, 0)),
		"erased of the second":     going(erase(a, 2, 7)),
		"twice":                    going(erase(a, 3, 0), erase(a, 3, 0)),
		"twice, apart":             going(erase(a, 3, 0), erase(b, 1, 0), erase(a, 2, 6), erase(a, 3, 0)),
		"good inserts, bad erases": {Inserts: []api.Insert{insert(a, 9, 1)}, Erases: []api.Erase{erase(a, 9, 9)}},
		"bad inserts, good erases": {Inserts: []api.Insert{insert(nowhere, 9, 1)}, Erases: []api.Erase{erase(a, 3, 0)}},
	} {
		p.prepare(what, 50, x, api.ErrStorePart)
	}
	p.prepare("all that is there", 50, going(erase(a, 3, 0), erase(a, 2, 6), erase(a, 6, math.MaxUint32), erase(b, 1, 0), erase(c, 1, 0)), api.OK)
	p.prepare("a text of 64 bytes", 51, withRow(value.Text(strings.Repeat("x", 64))), api.OK)
	p.prepare("one number in two segments", 52, coming(insert(a, 0, 1), insert(b, 0, 1)), api.OK)
}

func TestDecide(t *testing.T) {
	p := fullPair(t)
	for _, e := range []uint64{0, 1, 5, 6, 8, 9, 1 << 63, most - 1, most} {
		p.decide("not the next epoch", e, 4, api.ErrStoreEpoch)
		p.decide("not the next epoch, of nobody", e, 77, api.ErrStoreEpoch)
	}
	p.decide("of nobody", 7, 77, api.OK)
	p.decide("inserts", 8, 4, api.OK)
	p.decide("the same once more is nobody", 9, 4, api.OK)
	p.decide("erases, some of what is not there", 10, most, api.OK)
	p.decide("one with nothing", 11, 0, api.OK)
	if len(p.s.Prepared()) != 0 {
		t.Error("P11.5: all were decided:", p.s.Prepared())
	}
}

// The last epoch has none behind it.
func TestDecideLast(t *testing.T) {
	p := newPair(t)
	p.install("up to the last but one", most-1, 0, false, []api.Held{held(a, ver(a, most-1, 0, 1, 0))}, api.OK)
	p.prepare("at the end", 1, api.Part{Inserts: []api.Insert{insert(a, 0, 2)}, Erases: []api.Erase{erase(a, most-1, 0)}}, api.OK)
	p.decide("the last but one", most-1, 1, api.ErrStoreEpoch)
	p.decide("the last", most, 1, api.OK)
	p.prepare("behind the end", 2, coming(insert(a, 0, 2)), api.OK)
	for _, e := range []uint64{0, 1, most - 1, most} {
		p.decide("behind the last", e, 2, api.ErrStoreEpoch)
	}
	p.setMark("at the end", most, api.OK)
	p.w.want(t, "P11.11: at the end", open(t, "at the end", p.d, three()))
}

func TestForget(t *testing.T) {
	p := fullPair(t)
	p.forget("nobody", 3)
	p.forget("one", 4)
	p.forget("it is not there any more", 4)
	p.prepare("it comes again", 4, coming(insert(a, 3, 3)), api.OK)
	p.forget("the greatest", most)
	p.forget("the least", 0)
	p.decide("what came again", 7, 4, api.OK)
	p.forget("decided", 4)
	p.d.Arm(0)
	p.d.Append("x", nil)
	wantErrno(t, "P11.5: Forget of nobody, on a dead disk", p.s.Forget(4), api.OK)
}

func TestSetMark(t *testing.T) {
	p := fullPair(t)
	for _, m := range []uint64{7, 8, 1 << 63, most} {
		p.setMark("above through", m, api.ErrStoreEpoch)
	}
	for _, m := range []uint64{0, 1, 2} {
		p.setMark("not above the mark", m, api.OK)
	}
	p.setMark("above", 3, api.OK)
	p.setMark("below", 2, api.OK)
	p.setMark("as it is", 3, api.OK)
	p.setMark("as through", 6, api.OK)
	p.decide("the next epoch", 7, 4, api.OK)
	p.setMark("as through now", 7, api.OK)
	p.d.Arm(0)
	p.d.Append("x", nil)
	wantErrno(t, "P11.6: SetMark of what it is, on a dead disk", p.s.SetMark(7), api.OK)
	wantErrno(t, "P11.6: SetMark above through, on a dead disk", p.s.SetMark(8), api.ErrStoreEpoch)
}

// Where the log refuses, nothing has changed.
func TestLogRefuses(t *testing.T) {
	calls := map[string]func(s *store.Store) api.Errno{
		"Prepare": func(s *store.Store) api.Errno { return s.Prepare(50, coming(insert(a, 0, 1))) },
		"Decide":  func(s *store.Store) api.Errno { return s.Decide(7, 4) },
		"Forget":  func(s *store.Store) api.Errno { return s.Forget(4) },
		"SetMark": func(s *store.Store) api.Errno { return s.SetMark(5) },
	}
	for what, call := range calls {
		p := fullPair(t)
		room := p.d.Free()
		wantErrno(t, "filling the disk", p.d.Append("x", make([]byte, room-10)), api.OK)
		wantErrno(t, "R2: "+what+", the disk is full", call(p.s), api.ErrDiskFull)
		p.w.want(t, "R2: "+what+", the disk is full", p.s)
		wantErrno(t, "making room", p.d.Remove("x"), api.OK)
		p.same("R2: " + what + ", the disk was full")
		for n := range 2 {
			p := fullPair(t)
			p.d.Arm(n)
			wantErrno(t, "R2: "+what+", the disk dies", call(p.s), api.ErrDiskDead)
			p.w.want(t, "R2: "+what+", the disk dies", p.s)
			wantErrno(t, "R2: "+what+", the disk is dead", call(p.s), api.ErrDiskDead)
		}
	}
}

// A part that is too long for a record is refused, and nothing has changed.
func TestPrepareLong(t *testing.T) {
	p := newPair(t)
	long := coming()
	wide := row(8, 1)
	for i := range wide {
		wide[i] = value.Text(strings.Repeat("x", api.MaxText))
	}
	size := len(rowBytes(wide)) + 5
	for i := range uint32(api.MaxFrame/size + 1) {
		long.Inserts = append(long.Inserts, api.Insert{At: c, Ver: api.Version{Id: name(0, i), Row: wide}})
	}
	wantErrno(t, "P11.4: Prepare of a part that is too long", p.s.Prepare(1, long), api.ErrRedoLong)
	p.same("R2: Prepare of a part that is too long")
	long.Inserts = long.Inserts[:len(long.Inserts)-1]
	wantErrno(t, "P11.4: Prepare of a part that is just not too long", p.s.Prepare(1, long), api.OK)
	wantNumbers(t, "P11.4: a long part", open(t, "a long part", p.d, three()).Prepared(), 1)
}
