package member_test

import (
	"slices"
	"testing"

	"hayloft/api"
	"hayloft/disk"
	"hayloft/member"
)

// emptied is node 0 of two without a store.
func emptied(t *testing.T) (*member.Member, *disk.Disk) {
	t.Helper()
	d := disk.New(1 << 20)
	return open(t, "an empty disk", two(), d, 0), d
}

// wantHas wants that a member has a store of just this, and that it is on its disk.
func wantHas(t *testing.T, what string, m *member.Member, d *disk.Disk, through, mark uint64, zero, one []api.Version) {
	t.Helper()
	for _, x := range []*member.Member{m, open(t, what, two(), d.Crash(nil), 0)} {
		s := x.Store()
		if s == nil || x.Wiped() || s.Through() != through || s.Mark() != mark {
			t.Fatalf("P20.4: %s: lacks %v, through %d, mark %d, want %d, %d", what, x.Wiped(), s.Through(), s.Mark(), through, mark)
		}
		wantVersions(t, "P20.4: "+what, s.Versions(at0), zero...)
		wantVersions(t, "P20.4: "+what, s.Versions(at1), one...)
	}
}

func list(l ...api.Version) []api.Version { return l }

func TestCopiesWithoutStore(t *testing.T) {
	for _, order := range [][]api.Segment{{at0, at1}, {at1, at0}} {
		m, d := emptied(t)
		l := map[api.Segment][]api.Version{at0: list(ver(1, 0, 7, 0), ver(3, 1, 8, 4)), at1: list(ver(2, 0, 9, 0))}
		marks := map[api.Segment]uint64{at0: 2, at1: 3}
		for range 2 {
			wantSaid(t, "P20.4: MsgCopy, the first one", m.Take(copyOf(4, order[0], 0, 5, marks[order[0]], l[order[0]]...)))
		}
		if m.Store() != nil || len(d.Names()) != 0 {
			t.Error("P20.4: it has made a store ahead of the last copy")
		}
		for range 2 {
			wantSaid(t, "P20.4: MsgCopy, the last one", m.Take(copyOf(4, order[1], 0, 5, marks[order[1]], l[order[1]]...)), joined(4, 5))
		}
		wantSaid(t, "P20.4: MsgCopy, the first one, doubled", m.Take(copyOf(4, order[0], 0, 5, 0)), joined(4, 5))
		wantHas(t, "copies", m, d, 5, 3, l[at0], l[at1])
		wantSaid(t, "P20.3: Tick", m.Tick(), hello(0, 5, false))
		wantSaid(t, "P20.4: MsgPrepare", m.Take(prepare(9, 5, going(erase(at1, 2, 0)))), vote(9, true))
		wantSaid(t, "P20.4: MsgDecide", m.Take(decide(6, 9)), throughTold(6, 3))
	}
}

// What was ended well is told again to whoever sends anything of it, whatever that is; what was not, is not.
func TestEnded(t *testing.T) {
	m, d := emptied(t)
	m.Take(copyOf(4, at0, 0, 5, 0))
	wantSaid(t, "P20.4: MsgCopy", m.Take(copyOf(4, at1, 0, 5, 0)), joined(4, 5))
	for _, x := range []api.Message{
		copyOf(4, at1, 0, 7, 7), copyOf(4, at0, 3, 5, 0), copyOf(4, api.Segment{Proj: 8}, 0, 5, 0), copyOf(4, at0, 0, 5, 0, ver(1, 1, 1, 1)),
	} {
		wantSaid(t, "P20.4: MsgCopy of what was ended well", m.Take(x), joined(4, 5))
	}
	for _, attempt := range []uint64{0, 1, 3} {
		wantSaid(t, "P20.4: MsgCopy of an earlier one", m.Take(copyOf(attempt, at0, 0, 5, 0)))
	}
	wantHas(t, "ended", m, d, 5, 0, nil, nil)
	m.Take(copyOf(5, at0, 0, 4, 0))
	for range 2 {
		wantSaid(t, "P20.4: MsgCopy, up to an epoch below through", m.Take(copyOf(5, at1, 0, 4, 0)))
		wantSaid(t, "P20.4: MsgCopy of what was not ended well", m.Take(copyOf(5, at0, 0, 4, 0)))
		wantSaid(t, "P20.4: MsgCopy of an earlier one that was ended well", m.Take(copyOf(4, at0, 0, 5, 0)))
	}
	wantHas(t, "ended", m, d, 5, 0, nil, nil)
}

// Attempt 0 was ended when the member was opened, and not well.
func TestAttempt0(t *testing.T) {
	m, _ := emptied(t)
	for _, at := range []api.Segment{at0, at1, at0, at1} {
		wantSaid(t, "P20.4: MsgCopy of attempt 0", m.Take(copyOf(0, at, 0, 0, 0)))
	}
	if m.Store() != nil {
		t.Error("P20.4: attempt 0 has made a store")
	}
	m.Take(copyOf(1, at0, 0, 0, 0))
	wantSaid(t, "P20.4: MsgCopy of attempt 1", m.Take(copyOf(1, at1, 0, 0, 0)), joined(1, 0))
}

// Copies that do not fit are passed over: the attempt goes on.
func TestCopiesThatDoNotFit(t *testing.T) {
	m, d := begin(t, 2)
	m.Take(copyOf(6, at0, 2, 4, 0, ver(3, 0, 1, 0)))
	odd := []api.Message{
		copyOf(6, at1, 0, 4, 0), copyOf(6, at1, 1, 4, 0), copyOf(6, at1, 2, 5, 0), copyOf(6, at1, 2, 3, 0), copyOf(6, at1, 4, 2, 0),
		copyOf(6, at0, 2, 4, 3, ver(3, 9, 1, 0)), // the first one counts
		copyOf(5, at1, 2, 4, 0), copyOf(0, at1, 2, 4, 0),
	}
	for _, at := range noSegments() {
		odd = append(odd, copyOf(6, at, 2, 4, 0))
	}
	for _, x := range odd {
		wantSaid(t, "P20.4: MsgCopy that does not fit", m.Take(x))
	}
	wantHas(t, "copies that do not fit", m, d, 2, 0, list(grown(1)), list(grown(2)))
	wantSaid(t, "P20.4: MsgCopy", m.Take(copyOf(6, at1, 2, 4, 1, ver(2, 0, 12, 4))), joined(6, 4))
	wantHas(t, "copies that fit", m, d, 4, 1, list(grown(1), ver(3, 0, 1, 0)), list(ver(2, 0, 12, 4)))
}

// A greater attempt begins also with a copy that is not for it, and what was gathered is dropped.
func TestGreaterAttempt(t *testing.T) {
	m, d := emptied(t)
	wantSaid(t, "P20.4: MsgCopy", m.Take(copyOf(1, at0, 0, 3, 2, ver(1, 0, 1, 0))))
	wantSaid(t, "P20.4: MsgCopy, a greater attempt, of no segment of its", m.Take(copyOf(3, api.Segment{Proj: 5}, 0, 3, 3)))
	wantSaid(t, "P20.4: MsgCopy, the former attempt", m.Take(copyOf(1, at1, 0, 3, 2)))
	wantSaid(t, "P20.4: MsgCopy, the new attempt", m.Take(copyOf(3, at1, 0, 3, 0, ver(2, 0, 1, 0))))
	if m.Store() != nil {
		t.Error("P20.4: what was gathered for another attempt counts")
	}
	wantSaid(t, "P20.4: MsgCopy, another epoch than the first one's", m.Take(copyOf(3, at0, 0, 4, 0)))
	wantSaid(t, "P20.4: MsgCopy, the new attempt", m.Take(copyOf(3, at0, 0, 3, 1)), joined(3, 3))
	wantHas(t, "a greater attempt", m, d, 3, 1, nil, list(ver(2, 0, 1, 0)))
	// and the greatest of all
	m.Take(copyOf(most, at0, 3, 3, 0))
	wantSaid(t, "P20.4: MsgCopy", m.Take(copyOf(most, at1, 3, 3, 0)), joined(most, 3))
	wantSaid(t, "P20.4: MsgCopy, the former attempt", m.Take(copyOf(3, at0, 0, 3, 1)))
}

// Whole: what was there is gone. Else it is merged; what is prepared stays.
func TestWholeOrNot(t *testing.T) {
	for _, since := range []uint64{0, 1, 2} {
		m, d := begin(t, 2)
		m.Take(prepare(7, 2, api.Part{}))
		m.Take(copyOf(1, at0, since, 3, 0, ver(3, 0, 5, 0)))
		wantSaid(t, "P20.4: MsgCopy", m.Take(copyOf(1, at1, since, 3, 0, ver(2, 0, 12, 3))), joined(1, 3))
		zero := list(grown(1), ver(3, 0, 5, 0))
		if since == 0 {
			zero = zero[1:]
		}
		wantHas(t, "whole or not", m, d, 3, 0, zero, list(ver(2, 0, 12, 3)))
		wantPrepared(t, "copies", m, 7)
	}
}

func TestSinceAboveThrough(t *testing.T) {
	m, d := emptied(t)
	wantNotWell(t, "since, without a store", m, 1, 1, 2, 0)
	if m.Store() != nil || len(d.Names()) != 0 {
		t.Error("P20.4: it has made a store, for changes alone")
	}
	wantNotWell(t, "since the last epoch, without a store", m, 2, most, most, 0)
	m, d = begin(t, 2)
	wantNotWell(t, "since above through", m, 1, 3, 4, 0)
	wantNotWell(t, "since above through, up to it", m, 2, 3, 3, 0)
	wantHas(t, "since above through", m, d, 2, 0, list(grown(1)), list(grown(2)))
	m.Take(copyOf(3, at0, 2, 4, 0))
	wantSaid(t, "P20.4: MsgCopy since through", m.Take(copyOf(3, at1, 2, 4, 0)), joined(3, 4))
}

// wantNotWell wants that an attempt is ended, and not well.
func wantNotWell(t *testing.T, what string, m *member.Member, attempt, since, epoch, mark uint64, l ...api.Version) {
	t.Helper()
	for range 2 {
		wantSaid(t, "P20.4: MsgCopy: "+what, m.Take(copyOf(attempt, at1, since, epoch, mark, l...)))
		wantSaid(t, "P20.4: MsgCopy: "+what, m.Take(copyOf(attempt, at0, since, epoch, mark)))
	}
}

// What the store refuses.
func TestInstallRefuses(t *testing.T) {
	bad := map[string][]api.Version{
		"a name of epoch 0":       list(ver(0, 0, 1, 0)),
		"a name from ahead":       list(ver(5, 0, 1, 0)),
		"deleted as it came":      list(ver(2, 0, 1, 2)),
		"deleted ahead":           list(ver(2, 0, 1, 5)),
		"a name twice":            list(ver(2, 0, 1, 0), ver(2, 1, 1, 0), ver(2, 0, 1, 0)),
		"two columns":             list(api.Version{Id: name(2, 0), Row: row(1, 1)}, api.Version{Id: name(3, 0), Row: []api.Value{number(1), number(1)}}),
		"a value that may not be": list(api.Version{Id: name(2, 0), Row: []api.Value{{Kind: api.KindInt, Bool: true}}}),
	}
	attempt := uint64(0)
	m, d := begin(t, 2)
	m.Take(decide(3, 9))
	for what, l := range bad {
		attempt++
		wantNotWell(t, what, m, attempt, 2, 4, 0, l...)
		attempt++
		wantNotWell(t, what+", whole", m, attempt, 0, 4, 0, l...)
	}
	wantNotWell(t, "a mark above the epoch", m, attempt+1, 2, 4, 5)
	wantNotWell(t, "an epoch below through", m, attempt+2, 1, 1, 0)
	if !m.Wiped() {
		t.Error("P20.4: it is lost no more, though nothing ended well")
	}
	m.Take(copyOf(attempt+3, at0, 2, 4, 0))
	wantSaid(t, "P20.4: MsgCopy", m.Take(copyOf(attempt+3, at1, 2, 4, 4)), joined(attempt+3, 4))
	wantHas(t, "lost no more", m, d, 4, 4, list(grown(1)), list(grown(2)))
}

// Up to through nothing is new, but who was lost is lost no more.
func TestUptoThrough(t *testing.T) {
	for _, since := range []uint64{0, 1, 2} {
		m, d := begin(t, 2)
		m.Take(markTo(2))
		m.Take(decide(3, 9))
		m.Take(copyOf(1, at0, since, 2, 1, grown(1)))
		wantSaid(t, "P20.4: MsgCopy", m.Take(copyOf(1, at1, since, 2, 0, grown(2))), joined(1, 2))
		wantHas(t, "up to through", m, d, 2, 2, list(grown(1)), list(grown(2)))
	}
}

// Opened anew it has heard of no attempt, and begins with any again.
func TestAttemptsAnew(t *testing.T) {
	m, d := emptied(t)
	m.Take(copyOf(8, at0, 0, 2, 0))
	m = open(t, "anew", two(), d, 0)
	wantSaid(t, "P20.4: MsgCopy, the second one, opened anew", m.Take(copyOf(8, at1, 0, 2, 0)))
	wantSaid(t, "P20.4: MsgCopy, the first one", m.Take(copyOf(8, at0, 0, 2, 0)), joined(8, 2))
	m = open(t, "anew", two(), d, 0)
	wantSaid(t, "P20.4: MsgCopy of what was ended well, opened anew", m.Take(copyOf(8, at0, 0, 2, 0)))
	wantSaid(t, "P20.4: MsgCopy of a former attempt, opened anew", m.Take(copyOf(3, at0, 0, 2, 0)))
	wantSaid(t, "P20.4: MsgCopy", m.Take(copyOf(8, at1, 0, 2, 0)), joined(8, 2))
}

// All of a node's segments are waited for, in whatever order, from whichever nodes they come.
func TestManySegments(t *testing.T) {
	for node := range 4 {
		m := open(t, "an empty disk", four(), disk.New(1<<20), node)
		shapes := member.Shapes(four(), node)
		slices.Reverse(shapes)
		for i, s := range shapes {
			x := api.Message{Kind: api.MsgCopy, From: (node + i) % 4, To: node, Attempt: 2, At: s.At, Epoch: 9, Mark: uint64(i % 3),
				Versions: list(api.Version{Id: name(uint64(i+1), 0), Row: row(s.Columns, int64(i))})}
			if i < len(shapes)-1 {
				wantSaid(t, "P20.4: MsgCopy", m.Take(x))
				continue
			}
			wantSaid(t, "P20.4: MsgCopy, the last one", m.Take(x), api.Message{Kind: api.MsgJoined, From: node, To: 4, Attempt: 2, Epoch: 9})
		}
		if m.Wiped() || m.Store().Through() != 9 || m.Store().Mark() != 2 {
			t.Fatal("P20.4: Wiped, Through, Mark:", m.Wiped())
		}
		for i, s := range shapes {
			wantVersions(t, "P20.4: MsgCopy", m.Store().Versions(s.At), api.Version{Id: name(uint64(i+1), 0), Row: row(s.Columns, int64(i))})
		}
	}
}
