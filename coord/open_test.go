package coord_test

import (
	"math"
	"testing"

	"hayloft/api"
	"hayloft/coord"
	"hayloft/disk"
	"hayloft/journal"
)

// badCatalogs are such as catalog.Check refuses, each by its error.
func badCatalogs() map[api.Errno]api.Catalog {
	nodes, table, projection, cover := two(), two(), two(), two()
	nodes.K = 2
	table.Tables[0].Name = ""
	projection.Projs[0].Table = 1
	cover.Projs = nil
	return map[api.Errno]api.Catalog{
		api.ErrCatalogNodes: nodes, api.ErrCatalogTable: table, api.ErrCatalogProjection: projection, api.ErrCatalogCover: cover,
	}
}

func wantNotOpened(t *testing.T, what string, c api.Catalog, d *disk.Disk, want api.Errno) {
	t.Helper()
	got, e := coord.Open(c, d)
	if e != want || got != nil {
		t.Errorf("P21.1: %s: Open answers %v %d, want %d", what, got, e, want)
	}
}

func TestOpenErrors(t *testing.T) {
	dead := disk.New(room)
	kill(dead)
	for want, c := range badCatalogs() {
		wantNotOpened(t, "a catalog that can't be", c, dead, want)
		d := disk.New(room)
		wantNotOpened(t, "a catalog that can't be", c, d, want)
		if len(d.Names()) != 0 {
			t.Error("P21.1: a catalog that can't be: there are files:", d.Names())
		}
	}
	wantNotOpened(t, "a dead disk", two(), dead, api.ErrDiskDead)
	wantNotOpened(t, "no room", two(), disk.New(3), api.ErrDiskFull)

	d := disk.New(room)
	d.Append("journal", []byte("no frame at all, and long enough for that"))
	wantNotOpened(t, "no journal's bytes", two(), d, api.ErrRedoSpoilt)

	b := begin(t, four())
	b.evicts(3)
	wantNotOpened(t, "a journal of more nodes", two(), b.d, api.ErrJournalForm)
}

// A new one knows nothing; nobody has told it anything.
func TestOpenNew(t *testing.T) {
	for _, cat := range []api.Catalog{two(), four()} {
		b := begin(t, cat)
		members := []bool{true, true, true, true}[:cat.Nodes]
		b.wantState("a new one", 0, 0, false, 0, members...)
		b.want("P21.5: a new one", b.tick(), silence())
		wantReplies(t, "P21.6: a new one", b.c.GiveUp())
		wantCommits(t, "P21.7: a new one", b.c.Commits())
	}
}

// All that the journal says stands; what was not decided is aborted; the rest is not known any more.
func TestOpenAnew(t *testing.T) {
	b := begin(t, two())
	b.commits(1, insert(0, row(7)))
	b.commits(2, insert(0, row(8)))
	wantErrno(t, "P21.6: Mark", b.c.Mark(1), api.OK)
	b.evicts(1)
	b.takes(through(0, 2, 1))
	b.c.Ask(4, api.Query{Columns: []int{0}}, 0, 0)
	b.c.Submit(5, ops(insert(0, row(9))), 0)
	b.wantState("ahead of the crash", 2, 1, true, 1, true, false)

	b = b.anew()
	b.wantState("opened anew", 2, 1, false, 0, true, false)
	wantCommits(t, "P21.1", b.c.Commits(), api.Commit{Txn: 1, Epoch: 1, Ops: ops(insert(0, row(7)))}, api.Commit{Txn: 2, Epoch: 2, Ops: ops(insert(0, row(8)))})
	b.want("P21.5: what 0 has told is not known", b.tick(), said(markTo(0, 1), decide(0, 1, 1), decide(0, 2, 2)))
	b.takes(vote(0, 3, true))
	b.joins(1)
	b.want("P21.2: 3 was aborted", hear(b.c.Submit(6, ops(remove(0)), 0)), said(scan(0, 2<<32+2, 2, at(0, 0)), scan(1, 2<<32+2, 2, at(0, 0))))
	j, e := journal.Open(b.d.Crash(nil), 2)
	if txn, undecided := j.Undecided(); e != api.OK || !undecided || txn != 4 {
		t.Error("P21.1: undecided is", txn, undecided)
	}
}

// undecidedDisk has a journal with a transaction that is not decided, and so much room beside what Open takes.
func undecidedDisk(t *testing.T, beside int) *disk.Disk {
	t.Helper()
	b := begin(t, two())
	b.c.Submit(1, ops(insert(0, row(7))), 0)
	b.d.Append("filler", make([]byte, b.d.Free()-openSize(t)-beside))
	b.d.Sync("filler")
	return b.d
}

// openSize is how many bytes a journal takes to be opened anew.
func openSize(t *testing.T) int {
	t.Helper()
	d := disk.New(room)
	onDisk(t, two(), d)
	once := d.Free()
	onDisk(t, two(), d)
	return once - d.Free()
}

// Where the journal has no room for what was not decided to be aborted it is opened all the same.
func TestOpenWithoutRoom(t *testing.T) {
	d := undecidedDisk(t, 0)
	b := onDisk(t, two(), d)
	b.wantState("no room", 0, 0, false, 0, true, true)
	b.want("P21.2: no room", hear(b.c.Submit(2, ops(insert(0, row(8))), 0)), replied(failed(2, api.ErrFull)))
	b.wantState("no room", 0, 0, false, 0, true, true)
	d.Remove("filler")
	b.want("P21.2: room", hear(b.c.Submit(2, ops(remove(0)), 0)), said(scan(0, 2<<32+1, 0, at(0, 0)), scan(1, 2<<32+1, 0, at(0, 0))))
	b.want("P21.4: room", b.take(rowsTold(0, 2<<32+1, at(0, 0))), said(prepare(0, 2, 0, api.Part{}), prepare(1, 2, 0, api.Part{})))
	wantNotOpened(t, "less than no room", two(), undecidedDisk(t, -1), api.ErrDiskFull)
}

// Where the disk dies while Open aborts what was not decided, that is its answer.
func TestOpenDies(t *testing.T) {
	steps := 0
	for dies := range 100 {
		d := undecidedDisk(t, 1000)
		d.Arm(dies)
		c, e := coord.Open(two(), d)
		if !d.Dead() {
			wantErrno(t, "P21.1: not dead", e, api.OK)
			break
		}
		if e != api.ErrDiskDead || c != nil {
			t.Errorf("P21.1: dead at step %d: Open answers %v %d", dies, c, e)
		}
		for _, keep := range []int{0, 1, 20, math.MaxInt} {
			b := onDisk(t, two(), d.Crash([]int{keep, keep}))
			b.want("P21.2: behind it", hear(b.c.Submit(3, ops(remove(0)), 0)), said(scanned(b, 0)...))
		}
		steps++
	}
	if steps < 4 { // an Append and a Sync of a record, twice
		t.Error("P21.1: too few steps:", steps)
	}
}

// scanned is what the first reading of a run asks of two.
func scanned(b *bench, epoch uint64) []api.Message {
	j, _ := journal.Open(b.d.Crash(nil), 2)
	number := (j.Boot()-1)<<32 + 1
	return []api.Message{scan(0, number, epoch, at(0, 0)), scan(1, number, epoch, at(0, 0))}
}
