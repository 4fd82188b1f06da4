package journal_test

import (
	"slices"
	"testing"

	"hayloft/api"
	"hayloft/disk"
	"hayloft/journal"
)

func TestTellsNothing(t *testing.T) {
	for nodes := 1; nodes <= api.MaxNodes; nodes++ {
		j := open(t, "an empty disk", disk.New(100), nodes)
		members := j.Members()
		if j.Last() != 0 || j.History() != 0 || len(j.Commits()) != 0 || len(members) != nodes || slices.Contains(members, false) {
			t.Error("P19.2: an empty journal tells:", j.Last(), j.History(), j.Commits(), members)
		}
		wantUndecided(t, "an empty journal", j, 0)
	}
}

// What was committed is told with its number, its epoch, its ops, the lowest epoch first; what was aborted is not.
func TestCommits(t *testing.T) {
	p := newPair(t, 2)
	for i, o := range someOps() {
		p.begin()
		p.commit(p.w.begun, p.w.last()+1, list(o), true)
		for range i {
			p.begin()
			p.abort(p.w.begun)
		}
	}
	p.begin()
	l := p.j.Commits()
	if len(l) != 4 || l[0].Txn != 1 || l[1].Txn != 2 || l[2].Txn != 4 || l[3].Txn != 7 || l[3].Epoch != 4 {
		t.Error("P19.2: Commits:", l)
	}
	p.anew()
	if !alikeCommits(p.j.Commits(), l) {
		t.Error("P19.2: Commits anew:", p.j.Commits())
	}
}

// spoil writes over ops, all that they have, and the spare room of each list.
func spoil(ops []api.Op) {
	ops = ops[:cap(ops)]
	for i := range ops {
		o := &ops[i]
		for _, r := range o.Rows[:cap(o.Rows)] {
			r = r[:cap(r)]
			for n := range r {
				r[n] = text("spoilt")
			}
		}
		for n := range o.Rows[:cap(o.Rows)] {
			o.Rows[:cap(o.Rows)][n] = columns(1)
		}
		where := o.Where[:cap(o.Where)]
		for n := range where {
			where[n] = term(9, 9, text("spoilt"))
		}
		*o = insert(99, columns(9))
	}
}

func spoilCommits(l []api.Commit) {
	for _, c := range l {
		spoil(c.Ops)
	}
	l = l[:cap(l)]
	for i := range l {
		l[i] = api.Commit{Txn: 99, Epoch: 99, Ops: someOps()}
	}
}

// roomy are ops with something in the spare room of each list; still tells whether all of it stands.
func roomy() (ops []api.Op, still func() bool) {
	whole := append(someOps(), insert(77, columns(7)))
	for i := range whole {
		o := &whole[i]
		for n, r := range o.Rows {
			o.Rows[n] = append(slices.Clone(r), text("spare"))[:len(r)]
		}
		o.Rows = append(slices.Clone(o.Rows), row(text("spare")))[:len(o.Rows)]
		o.Where = append(slices.Clone(o.Where), term(8, 8, text("spare")))[:len(o.Where)]
	}
	whole[4].Rows = nil
	still = func() bool {
		for i, o := range whole[:4] {
			for _, r := range o.Rows {
				if r[:len(r)+1][len(r)] != text("spare") {
					return false
				}
			}
			r := o.Rows[:len(o.Rows)+1][len(o.Rows)]
			w := o.Where[:len(o.Where)+1][len(o.Where)]
			if len(r) != 1 || r[0] != text("spare") || w != term(8, 8, text("spare")) || !alikeOps(list(o), list(someOps()[i])) {
				return false
			}
		}
		return whole[4].Table == 77 && whole[4].Rows == nil
	}
	return whole[:4], still
}

// R5: what is handed in is neither changed nor kept.
func TestOpsStay(t *testing.T) {
	p := newPair(t, 1)
	ops, still := roomy()
	wantBegin(t, "one", p.j, 1, api.OK)
	wantErrno(t, "P19.3: Commit", p.j.Commit(1, 1, ops), api.OK)
	if !still() {
		t.Error("R5: Commit has changed what it was handed")
	}
	want := []api.Commit{{Txn: 1, Epoch: 1, Ops: someOps()}}
	spoilCommits(p.j.Commits())
	if !still() {
		t.Error("R5: what is told shares memory with what was handed in")
	}
	spoil(ops)
	if got := p.j.Commits(); !alikeCommits(got, want) {
		t.Errorf("R5: Commit has kept what it was handed: %v", got)
	}
	if got := open(t, "anew", p.d, 1).Commits(); !alikeCommits(got, want) {
		t.Errorf("R5: Commit has kept what it was handed, on the disk: %v", got)
	}
}

// wantOwn wants that whatever is written to an answer is seen by no other one.
func wantOwn(t *testing.T, what string, j *journal.Journal) {
	t.Helper()
	commits, members := j.Commits(), j.Members()
	spoilCommits(j.Commits())
	other := j.Members()
	for i := range other[:cap(other)] {
		other[:cap(other)][i] = i%2 == 0
	}
	if !alikeCommits(j.Commits(), commits) || !slices.Equal(j.Members(), members) {
		t.Errorf("R5: %s: a later answer shows what was written to an earlier one", what)
	}
	kept := j.Commits()
	for i := range kept {
		kept[i].Ops = deep(kept[i].Ops)
	}
	if !alikeCommits(commits, kept) {
		t.Errorf("R5: %s: an earlier answer shows what was written to a later one", what)
	}
	// nor by another list of the same answer
	for i := range commits {
		spoil(commits[i].Ops)
		if !alikeCommits(commits[i+1:], kept[i+1:]) {
			t.Errorf("R5: %s: two lists of one answer share memory", what)
		}
	}
}

func TestAnswersAreNew(t *testing.T) {
	p := newPair(t, 5)
	same := someOps()
	x := columns(3)
	same = append(same, insert(1, x, x, x), insert(2, x))
	for range 3 {
		p.begin()
		p.commit(p.w.begun, p.w.last()+1, deep(same), true)
	}
	p.evict(3)
	wantOwn(t, "as it was committed", p.j)
	p.anew()
	wantOwn(t, "opened anew", p.j)
	p.same("whatever was written")
}

// R5: no two rows of one answer share memory, though those that are handed in do.
func TestRowsAreAlone(t *testing.T) {
	p := newPair(t, 1)
	x := columns(3)
	wantBegin(t, "one", p.j, 1, api.OK)
	wantErrno(t, "P19.3: Commit", p.j.Commit(1, 1, list(insert(0, x, x), insert(0, x))), api.OK)
	l := p.j.Commits()[0].Ops
	l[0].Rows[0][0] = text("spoilt")
	l[0].Rows[1] = append(l[0].Rows[1], text("spoilt"))
	if !slices.Equal(l[0].Rows[1][:3], x) || !slices.Equal(l[1].Rows[0], x) || x[0] != number(0) {
		t.Error("R5: two rows share memory:", l)
	}
}

// An answer is what there was when it was asked.
func TestAnswersStay(t *testing.T) {
	p := newPair(t, 3)
	epochs(t, p.j, 2)
	commits, members := p.j.Commits(), p.j.Members()
	epochs(t, p.j, 5)
	wantErrno(t, "P19.3: Evict", p.j.Evict(0), api.OK)
	if len(commits) != 2 || commits[1].Txn != 2 || !slices.Equal(members, []bool{true, true, true}) {
		t.Error("R5: an answer has changed:", commits, members)
	}
}
