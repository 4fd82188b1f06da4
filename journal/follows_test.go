package journal_test

import (
	"bytes"
	"fmt"
	"math/rand/v2"
	"slices"
	"testing"

	"hayloft/api"
	"hayloft/disk"
	"hayloft/journal"
)

// call is one that may be made of a journal and of a world.
type call struct {
	what    string
	journal func(j *journal.Journal) api.Errno
	world   func(w *world) api.Errno
}

func beginCall() call {
	return call{"Begin",
		func(j *journal.Journal) api.Errno { _, e := j.Begin(); return e },
		(*world).begin}
}

func commitCall(txn, epoch uint64, ops []api.Op, good bool) call {
	return call{fmt.Sprint("Commit ", txn, " as ", epoch),
		func(j *journal.Journal) api.Errno { return j.Commit(txn, epoch, deep(ops)) },
		func(w *world) api.Errno { return w.commit(txn, epoch, ops, good) }}
}

func abortCall(txn uint64) call {
	return call{fmt.Sprint("Abort ", txn),
		func(j *journal.Journal) api.Errno { return j.Abort(txn) },
		func(w *world) api.Errno { return w.abort(txn) }}
}

func turnCall(node int, member bool) call {
	return call{fmt.Sprint("node ", node, " a member: ", member),
		func(j *journal.Journal) api.Errno {
			if member {
				return j.Join(node)
			}
			return j.Evict(node)
		},
		func(w *world) api.Errno { return w.turn(node, member) }}
}

func markCall(epoch uint64) call {
	return call{fmt.Sprint("Mark ", epoch),
		func(j *journal.Journal) api.Errno { return j.Mark(epoch) },
		func(w *world) api.Errno { return w.markAt(epoch) }}
}

func someValue(r *rand.Rand) api.Value {
	switch r.IntN(4) {
	case 0:
		return null()
	case 1:
		return truth(r.IntN(2) == 0)
	case 2:
		return number(int64(r.Uint64()))
	}
	return text(long64()[:r.IntN(api.MaxText+1)])
}

// drawnOps are any ops; mostly such as may be written.
func drawnOps(r *rand.Rand) ([]api.Op, bool) {
	var l []api.Op
	good := true
	for range r.IntN(4) {
		o := api.Op{Kind: r.IntN(2), Table: r.IntN(256)}
		if r.IntN(20) == 0 {
			o.Kind, good = 2+r.IntN(3), false
		}
		for range r.IntN(3) {
			if o.Kind == api.OpDelete {
				o.Where = append(o.Where, term(r.IntN(256), r.IntN(256), someValue(r)))
				continue
			}
			var x []api.Value
			for range r.IntN(5) {
				x = append(x, someValue(r))
			}
			o.Rows = append(o.Rows, x)
		}
		l = append(l, o)
	}
	return l, good
}

// about is n, or one beside it.
func about(r *rand.Rand, n uint64) uint64 {
	if r.IntN(6) == 0 {
		return n + uint64(r.IntN(5)) - 2
	}
	return n
}

// someCall draws a call, most of them such as are not refused.
func someCall(r *rand.Rand, w *world) call {
	switch r.IntN(9) {
	case 0, 1, 2:
		return beginCall()
	case 3, 4, 5:
		ops, good := drawnOps(r)
		return commitCall(about(r, w.begun), about(r, w.last()+1), ops, good)
	case 6:
		return abortCall(about(r, w.begun))
	case 7:
		return turnCall(r.IntN(len(w.members)+2)-1, r.IntN(2) == 0)
	}
	return markCall(w.mark + uint64(r.IntN(4)) - 1)
}

// Whatever is called, a journal is as the chapter tells it, its file too; and so it is opened anew.
func TestAnyCalls(t *testing.T) {
	refused, done := 0, 0
	for seed := range uint64(60) {
		r := rand.New(rand.NewPCG(19, seed))
		p := newPair(t, 1+r.IntN(api.MaxNodes))
		for range 80 {
			x := someCall(r, p.w)
			p.does(x.what, func() api.Errno { return x.journal(p.j) }, func() api.Errno {
				e := x.world(p.w)
				if e == api.OK {
					done++
				} else {
					refused++
				}
				return e
			})
			if r.IntN(8) == 0 {
				p.anew()
			}
			if t.Failed() {
				t.Fatal("seed", seed)
			}
		}
	}
	if refused < 500 || done < 1500 {
		t.Error("too few were refused, or done:", refused, done)
	}
}

// script is a row of calls in which each kind of record is written.
func script() []call {
	return []call{
		beginCall(), commitCall(1, 1, someOps(), true), turnCall(1, false), beginCall(), abortCall(2), markCall(1),
		beginCall(), commitCall(3, 2, nil, true), turnCall(1, true), turnCall(0, false), markCall(2), beginCall(),
	}
}

// Let the disk die at each step of each call, and each beginning of what did not last survive.
func TestCrash(t *testing.T) {
	all := script()
	without, with := 0, 0
	for at := range 2 * len(all) {
		p := newPair(t, 2)
		p.d.Arm(at)
		for _, x := range all[:at/2] {
			wantErrno(t, "P19.3: "+x.what, x.journal(p.j), x.world(p.w))
		}
		x := all[at/2]
		wantErrno(t, "P19.3: "+x.what+" dies", x.journal(p.j), api.ErrDiskDead)
		p.w.want(t, "R2: "+x.what+" dies", p.j)
		after := p.w.clone()
		wantErrno(t, x.what, x.world(after), api.OK)
		whole := len(file(t, p.d)) - len(lasts(t, p.d))
		for keep := range whole + 2 {
			found := p.w
			if keep >= whole && whole > 0 {
				found = after
				with++
			} else {
				without++
			}
			wantFound(t, fmt.Sprint(x.what, " dies, ", keep, " bytes survive"), p.d.Crash([]int{keep}), found, 1)
		}
	}
	if without < 400 || with < 24 {
		t.Error("too few without the call, or with it:", without, with)
	}
}

// wantFound wants that just this is found on a disk, also if that dies while it is opened, so many times over; and that it goes on from there.
func wantFound(t *testing.T, what string, d *disk.Disk, found *world, deep int) {
	t.Helper()
	if deep > 0 {
		wantFoundAgain(t, what, d, found, deep)
	}
	x := d.Clone()
	j := open(t, what, x, len(found.members))
	if s := found.unlike(j); s != "" {
		t.Fatalf("P19.4: %s: %s", what, s)
	}
	if j.Boot() <= found.boots {
		t.Fatalf("P19.4: %s: Boot: %d, was %d", what, j.Boot(), found.boots)
	}
	goesOn(t, what, x, j, found)
}

// wantFoundAgain lets the disk die at each step of Open: what was found is found once more.
func wantFoundAgain(t *testing.T, what string, d *disk.Disk, found *world, deep int) {
	t.Helper()
	for at := 0; ; at++ {
		x := d.Clone()
		x.Arm(at)
		j, e := journal.Open(x, len(found.members))
		if e == api.OK {
			return
		}
		if e != api.ErrDiskDead || j != nil {
			t.Fatalf("P19.1: %s: Open dies at step %d: %v, %d", what, at, j != nil, e)
		}
		for _, keep := range []int{0, 1, 14, 15, 1000} { // record 1's frame has 15 bytes
			wantFound(t, fmt.Sprint(what, ", Open dies at ", at, ", keeps ", keep), x.Crash([]int{keep}), found, deep-1)
		}
	}
}

// goesOn wants that a journal that was found does what it must from then on.
func goesOn(t *testing.T, what string, d *disk.Disk, j *journal.Journal, found *world) {
	t.Helper()
	w := found.clone()
	if w.open {
		wantErrno(t, "P19.4: "+what+": Abort", j.Abort(w.begun), w.abort(w.begun))
	}
	e := w.begin()
	wantBegin(t, "P19.4: "+what, j, w.begun, e)
	wantErrno(t, "P19.4: "+what+": Commit", j.Commit(w.begun, w.last()+1, someOps()), w.commit(w.begun, w.last()+1, someOps(), true))
	if s := w.unlike(j); s != "" {
		t.Errorf("P19.4: %s, and goes on: %s", what, s)
	}
	if s := w.unlike(open(t, what, d, len(w.members))); s != "" {
		t.Errorf("P19.4: %s, goes on, opened anew: %s", what, s)
	}
}

// A disk that dies while a journal is begun.
func TestCrashOfTheFirstOpen(t *testing.T) {
	for at := range 4 {
		d := disk.New(1000)
		d.Arm(at)
		wantNotOpened(t, fmt.Sprint("dies at ", at), d, 2, api.ErrDiskDead)
		for keep := range 17 {
			w := newWorld(2)
			x := d.Crash([]int{keep})
			if at > 1 && keep >= 15 {
				w.boots = 1
			}
			wantFound(t, fmt.Sprint("the first Open dies at ", at, ", keeps ", keep), x, w, 2)
		}
	}
}

// life is a journal whose disk dies again and again, and all that it told.
type life struct {
	t     *testing.T
	r     *rand.Rand
	d     *disk.Disk
	j     *journal.Journal
	w     *world
	told  uint64 // the greatest number that Begin told
	died  int
	begun int
}

// do makes a call; if the disk dies, what is found may have it, or not.
func (l *life) do(x call) {
	before := l.w
	l.w = before.clone()
	want := x.world(l.w)
	e := x.journal(l.j)
	if e == api.ErrDiskDead {
		l.back(before, l.w)
		return
	}
	wantErrno(l.t, x.what, e, want)
	if e == api.OK && x.what == "Begin" {
		l.begun++
		n, _ := l.j.Undecided()
		if n <= l.told {
			l.t.Fatalf("P19.5: the number %d came behind %d", n, l.told)
		}
		l.told = n
	}
}

// back opens what is found, however often the disk dies within.
func (l *life) back(before, after *world) {
	l.died++
	boots := l.j.Boot()
	for tries := 0; ; tries++ {
		l.d = l.d.Crash([]int{l.r.IntN(120)})
		if tries < 3 {
			l.d.Arm(l.r.IntN(5))
		}
		j, e := journal.Open(l.d, len(before.members))
		if e == api.OK {
			l.j = j
			break
		}
		if e != api.ErrDiskDead || tries == 3 {
			l.t.Fatal("P19.4: Open:", e)
		}
	}
	switch {
	case after.unlike(l.j) == "":
		l.w = after
	case before.unlike(l.j) == "":
		l.w = before
	default:
		l.t.Fatalf("P19.4: neither what was answered, %s, nor one call more, %s", before.unlike(l.j), after.unlike(l.j))
	}
	if l.j.Boot() <= boots {
		l.t.Fatalf("P19.4: Boot: %d, was %d", l.j.Boot(), boots)
	}
}

// risesByOne wants that the epochs of what was committed are 1, 2, 3 .., and their numbers rise.
func risesByOne(t *testing.T, l []api.Commit) {
	t.Helper()
	txn := uint64(0)
	for i, c := range l {
		if c.Epoch != uint64(i)+1 || c.Txn <= txn {
			t.Errorf("P19.5: commit %d is %d, epoch %d, behind %d", i, c.Txn, c.Epoch, txn)
		}
		txn = c.Txn
	}
}

func TestLives(t *testing.T) {
	died, begun := 0, 0
	for seed := range uint64(200) {
		r := rand.New(rand.NewPCG(20, seed))
		d := disk.New(1 << 20)
		l := &life{t: t, r: r, d: d, j: open(t, "an empty disk", d, 3), w: newWorld(3)}
		for range 60 {
			if r.IntN(4) == 0 {
				l.d.Arm(r.IntN(6))
			}
			l.do(someCall(r, l.w))
			if s := l.w.unlike(l.j); s != "" {
				t.Fatalf("P19.2: seed %d: %s", seed, s)
			}
			risesByOne(t, l.j.Commits())
		}
		died += l.died
		begun += l.begun
	}
	if died < 500 || begun < 1000 {
		t.Error("too few died, or were begun:", died, begun)
	}
}

// The same calls on two disks come to the same, byte by byte.
func TestOneAnswer(t *testing.T) {
	for seed := range uint64(20) {
		var files [][]byte
		for range 2 {
			r := rand.New(rand.NewPCG(21, seed))
			p := newPair(t, 4)
			for range 60 {
				x := someCall(r, p.w)
				x.world(p.w)
				x.journal(p.j)
			}
			files = append(files, file(t, p.d))
		}
		if !bytes.Equal(files[0], files[1]) {
			t.Error("R6: the same calls write other files")
		}
	}
}

// Each kind of record is written by the script.
func TestScript(t *testing.T) {
	p := newPair(t, 2)
	for _, x := range script() {
		p.does(x.what, func() api.Errno { return x.journal(p.j) }, func() api.Errno { return x.world(p.w) })
	}
	var kinds []byte
	for _, b := range p.w.records {
		kinds = append(kinds, b[0])
	}
	slices.Sort(kinds)
	if !slices.Equal(slices.Compact(kinds), []byte{1, 2, 3, 4, 5, 6, 7}) {
		t.Error("the script writes", kinds)
	}
}
