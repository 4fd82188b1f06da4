package member_test

import (
	"testing"

	"hayloft/api"
	"hayloft/disk"
	"hayloft/member"
)

// fill leaves so many bytes of a disk's room.
func fill(t *testing.T, d *disk.Disk, left int) {
	t.Helper()
	wantErrno(t, "a disk", d.Append("filler", make([]byte, d.Free()-left)), api.OK)
}

func empty(t *testing.T, d *disk.Disk) {
	t.Helper()
	wantErrno(t, "a disk", d.Remove("filler"), api.OK)
}

// recordSize is how many bytes of the log it needs to forget one.
func recordSize(t *testing.T) int {
	t.Helper()
	m, d := begin(t, 0)
	m.Take(prepare(1, 0, api.Part{}))
	room := d.Free()
	wantErrno(t, "store.Forget", m.Store().Forget(1), api.OK)
	return room - d.Free()
}

func TestPrepareFull(t *testing.T) {
	m, d := begin(t, 2)
	fill(t, d, 5)
	wantSaid(t, "P20.4: MsgPrepare on a full disk", m.Take(prepare(5, 2, api.Part{})), vote(5, false))
	wantPrepared(t, "full", m)
	empty(t, d)
	wantSaid(t, "P20.4: MsgPrepare", m.Take(prepare(5, 2, api.Part{})), vote(5, true))
	fill(t, d, 5)
	wantSaid(t, "P20.4: MsgPrepare of what is prepared, on a full disk", m.Take(prepare(5, 2, api.Part{})), vote(5, true))
}

// They are forgotten by rising numbers, up to the first one that is refused; then nothing is prepared.
func TestForgetFull(t *testing.T) {
	size := recordSize(t)
	for many := range 4 {
		m, d := begin(t, 1)
		for _, txn := range []uint64{6, 3, 4} {
			wantErrno(t, "store.Prepare", m.Store().Prepare(txn, api.Part{}), api.OK)
		}
		fill(t, d, many*size+size/2)
		wantSaid(t, "P20.4: MsgPrepare, no room to forget all", m.Take(prepare(7, 1, api.Part{})), vote(7, false))
		wantPrepared(t, "no room to forget all", m, []uint64{3, 4, 6}[many:]...)
		empty(t, d)
		wantSaid(t, "P20.4: MsgPrepare", m.Take(prepare(7, 1, api.Part{})), vote(7, true))
		wantPrepared(t, "room", m, 7)
	}
}

// Where what is ahead can't be forgotten, what is prepared already is told as No.
func TestForgetFullPrepared(t *testing.T) {
	m, d := begin(t, 1)
	for _, txn := range []uint64{3, 7} {
		wantErrno(t, "store.Prepare", m.Store().Prepare(txn, api.Part{}), api.OK)
	}
	fill(t, d, 5)
	wantSaid(t, "P20.4: MsgPrepare of what is prepared, no room to forget", m.Take(prepare(7, 1, api.Part{})), vote(7, false))
	wantPrepared(t, "no room to forget", m, 3, 7)
}

func TestDecideFull(t *testing.T) {
	m, d := begin(t, 2)
	m.Take(prepare(5, 2, going(erase(at0, 1, 0))))
	fill(t, d, 5)
	wantSaid(t, "P20.4: MsgDecide on a full disk", m.Take(decide(3, 5)))
	wantPrepared(t, "full", m, 5)
	wantSaid(t, "P20.4: MsgDecide of what was decided, on a full disk", m.Take(decide(2, 2)), throughTold(2, 0))
	empty(t, d)
	wantSaid(t, "P20.4: MsgDecide", m.Take(decide(3, 5)), throughTold(3, 0))
}

func TestMarkFull(t *testing.T) {
	m, d := begin(t, 2)
	m.Take(markTo(1))
	fill(t, d, 5)
	wantSaid(t, "P20.4: MsgMark on a full disk", m.Take(markTo(2)), throughTold(2, 1))
	empty(t, d)
	wantSaid(t, "P20.4: MsgMark", m.Take(markTo(2)), throughTold(2, 2))
}

func TestInstallFull(t *testing.T) {
	m, d := begin(t, 2)
	m.Take(decide(3, 9))
	fill(t, d, 5)
	wantNotWell(t, "on a full disk", m, 1, 2, 3, 0)
	if !m.Wiped() {
		t.Error("P20.4: it is lost no more")
	}
	empty(t, d)
	wantNotWell(t, "of what was ended", m, 1, 2, 3, 0)
	m.Take(copyOf(2, at0, 2, 3, 0))
	wantSaid(t, "P20.4: MsgCopy", m.Take(copyOf(2, at1, 2, 3, 0)), joined(2, 3))
	wantHas(t, "room", m, d, 3, 0, list(grown(1)), list(grown(2)))
}

// copied tells a member all copies of an attempt, with a lot in them.
func copied(m *member.Member, attempt uint64) []api.Message {
	var l []api.Version
	for i := range uint32(20) {
		l = append(l, ver(1, i, 5, 0))
	}
	m.Take(copyOf(attempt, at0, 0, 3, 1, l...))
	return m.Take(copyOf(attempt, at1, 0, 3, 1, l...))
}

// Without a store, there may be no room for one; room for one with nothing alone; or for all.
func TestFormatFull(t *testing.T) {
	none, nothing, all := 0, 0, 0
	for room := 0; all < 3; room += 3 {
		d := disk.New(room)
		m := open(t, "an empty disk", two(), d, 0)
		said := copied(m, 1)
		wantSaid(t, "P20.4: MsgCopy, once more", m.Take(copyOf(1, at0, 0, 3, 1)), said...)
		again := open(t, "anew", two(), d.Crash(nil), 0)
		switch {
		case m.Store() == nil:
			none++
			wantSaid(t, "P20.4: MsgCopy, no room", said)
			wantSaid(t, "P20.3: Tick, no room", m.Tick(), hello(0, 0, true))
			wantSaid(t, "P20.3: Tick, no room, opened anew", again.Tick(), hello(0, 0, true))
		case len(said) == 0:
			nothing++
			wantHas(t, "room for nothing", m, d, 0, 0, nil, nil)
		default:
			all++
			wantSaid(t, "P20.4: MsgCopy, room for all", said, joined(1, 3))
			if again.Store().Through() != 3 || len(again.Store().Versions(at1)) != 20 {
				t.Error("P20.4: not all is on the disk")
			}
		}
		if nothing == 0 && all > 0 || none == 0 && nothing > 0 || room > 1<<16 {
			t.Fatal("P20.4: with room, without:", room, none, nothing, all)
		}
	}
}

// A greater attempt does well when there is room again, whatever the former ones have left on the disk.
func TestFormatAgain(t *testing.T) {
	for left := 0; left < 120; left += 3 {
		d := disk.New(1 << 16)
		m := open(t, "an empty disk", two(), d, 0)
		fill(t, d, left)
		if m.Take(copyOf(1, at0, 0, 3, 1)); len(m.Take(copyOf(1, at1, 0, 3, 1))) > 0 || m.Store() != nil {
			return // there was room enough
		}
		empty(t, d)
		wantSaid(t, "P20.4: MsgCopy, a greater attempt", copied(m, 2), joined(2, 3))
	}
}
