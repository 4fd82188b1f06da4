package coord_test

import (
	"fmt"
	"math/rand/v2"
	"slices"
	"testing"

	"hayloft/api"
	"hayloft/journal"
)

// pair is a coordinator and the world that it must tell.
type pair struct {
	*bench
	w     *world
	armed bool // its disk dies soon
}

func newPair(t *testing.T, cat api.Catalog) *pair {
	t.Helper()
	return &pair{bench: begin(t, cat), w: newWorld(cat)}
}

// call is one of a coordinator, and what the world says to it.
type call struct {
	what  string
	do    func(b *bench) heard
	wants func(w *world) heard
}

// someCall draws one.
func someCall(r *rand.Rand, w *world) call {
	to, pick := r.IntN(1000), r.IntN(5)-2
	switch n := r.IntN(100); {
	case n < 12:
		l := someOps(r, w.cat)
		return call{what: fmt.Sprintf("P21.2: Submit %+v", l), do: func(b *bench) heard { return hear(b.c.Submit(to, l, pick)) }, wants: func(w *world) heard { return w.submit(to, l, pick) }}
	case n < 24:
		q, epoch := someQuery(r, w.cat), near(r, uint64(r.IntN(int(w.log.last())+1)))
		return call{what: fmt.Sprintf("P21.3: Ask %+v", q), do: func(b *bench) heard { return hear(b.c.Ask(to, q, epoch, pick)) }, wants: func(w *world) heard { return w.ask(to, q, epoch, pick) }}
	case n < 32:
		return call{what: "P21.5: Tick", do: func(b *bench) heard { return b.tick() }, wants: (*world).tick}
	case n < 34:
		return call{what: "P21.6: GiveUp", do: func(b *bench) heard { return hear(b.c.GiveUp(), nil) }, wants: (*world).giveUp}
	case n < 37:
		epoch := near(r, w.log.mark+uint64(r.IntN(3)))
		return call{what: "P21.6: Mark", do: func(b *bench) heard { return markOf(b.c.Mark(epoch)) }, wants: func(w *world) heard { return markOf(w.setMark(epoch)) }}
	}
	return takes(someHeard(r, w))
}

func takes(x api.Message) call {
	return call{what: fmt.Sprintf("P21.4: Take %+v", x), do: func(b *bench) heard { return hear(b.c.Take(x)) }, wants: func(w *world) heard { return w.take(x) }}
}

// markOf is what a Mark answers, in a reply.
func markOf(e api.Errno) heard { return replied(api.Reply{Code: e}) }

// wantWorld wants that a coordinator tells of itself what the world does.
func (p *pair) wantWorld(what string) {
	p.t.Helper()
	p.wantState(what, p.w.log.last(), p.w.log.mark, p.w.txn != nil, len(p.w.queries), p.w.log.members...)
	wantCommits(p.t, "P21.7: "+what, p.c.Commits(), p.w.log.commits...)
}

// does wants that a call tells what the world says, or, if the disk dies in it, nothing; then it is opened anew on what is found.
func (p *pair) does(r *rand.Rand, x call) {
	p.t.Helper()
	former := p.w.log
	p.w.trail = nil
	got := x.do(p.bench)
	want := x.wants(p.w)
	if !p.d.Dead() {
		p.want(x.what, got, want)
		p.wantWorld(x.what)
		return
	}
	if len(got.replies) == 1 && got.replies[0].Kind == 0 { // of Mark
		want = markOf(api.ErrUnavailable)
	} else {
		want = silence()
	}
	p.want("dead: "+x.what, got, want)
	p.staysDead(r)
	p.found(former, r)
}

// staysDead wants that nothing is told any more.
func (p *pair) staysDead(r *rand.Rand) {
	p.t.Helper()
	last, busy, asked := p.c.Last(), p.c.Busy(), p.c.Asked()
	for range 5 {
		x := someCall(r, p.w)
		if got := x.do(p.bench); len(got.messages) > 0 || len(got.replies) > 0 && !alikeReplies(got.replies, markOf(api.ErrUnavailable).replies) {
			p.t.Errorf("P21.1: dead, and tells: %s: %+v", x.what, got)
		}
	}
	if p.c.Last() != last || p.c.Busy() != busy || p.c.Asked() != asked {
		p.t.Error("P21.1: dead, and has changed")
	}
}

// found goes on, on what is found behind a crash: what was known ahead of the call in which the disk died, or by one of its records.
func (p *pair) found(former known, r *rand.Rand) {
	p.t.Helper()
	d := p.d.Crash([]int{r.IntN(80), r.IntN(80)})
	d.Remove("filler")
	j, e := journal.Open(d.Crash(nil), p.cat.Nodes)
	wantErrno(p.t, "the log", e, api.OK)
	number, undecided := j.Undecided()
	p.bench = onDisk(p.t, p.cat, d)
	now := known{commits: p.c.Commits(), members: p.c.Members(), mark: p.c.History()}
	states := append([]known{former}, p.w.trail...)
	i := slices.IndexFunc(states, func(k known) bool {
		return alikeKnown(k, now) && k.undecided == undecided && (!undecided || k.begun == number)
	})
	if i < 0 {
		p.t.Fatalf("P21.8: found %+v, %d %t, want one of %+v", now, number, undecided, states)
	}
	p.w, p.armed = p.w.anew(states[i]), false
	p.wantWorld("found")
}

// Whatever it is told it tells what the chapter's words say.
func TestFollowsTheWorld(t *testing.T) {
	many := map[string]int{}
	for seed := range uint64(40) {
		r := rand.New(rand.NewPCG(21, seed))
		p := newPair(t, []api.Catalog{two(), four()}[seed%2])
		for range 400 {
			if t.Failed() {
				t.Fatal("seed", seed)
			}
			p.trouble(r)
			p.does(r, someCall(r, p.w))
			p.count(many)
		}
	}
	for _, what := range []string{"commits", "marked", "one is out", "too many are out", "reads", "prepares", "queries", "probe", "attempt", "no room", "opened anew"} {
		if many[what] < 100 {
			t.Errorf("P21.4: too rarely: %s: %d", what, many[what])
		}
	}
}

// trouble fills the disk, or makes room on it, has it die soon, or crashes; or many nodes lose what they have.
func (p *pair) trouble(r *rand.Rand) {
	p.t.Helper()
	switch n := r.IntN(100); {
	case n < 2 && !p.w.noRoom && !p.armed:
		leave(p.d, 0)
		p.w.noRoom = true
	case n < 10 && p.w.noRoom:
		p.d.Remove("filler")
		p.w.noRoom = false
	case n < 12 && !p.w.noRoom:
		p.d.Arm(r.IntN(4))
		p.armed = true
	case n < 13:
		p.w.trail = nil
		p.found(p.w.log, r)
	case n < 14:
		for range p.cat.K + 1 {
			x := hello(r.IntN(p.cat.Nodes), 0, 0, true)
			x.To = p.cat.Nodes
			p.does(r, takes(x))
			x.Ask = p.w.probes[x.From].number
			p.does(r, takes(x))
		}
	}
}

// count notes what a run has come through.
func (p *pair) count(many map[string]int) {
	w := p.w
	for what, is := range map[string]bool{
		"commits": w.log.last() > 2, "marked": w.log.mark > 0, "one is out": slices.Contains(w.log.members, false), "too many are out": w.tooManyOut(),
		"reads": w.txn != nil && !w.txn.prepares, "prepares": w.txn != nil && w.txn.prepares, "queries": len(w.queries) > 1, "no room": w.noRoom,
		"probe": slices.ContainsFunc(w.probes, func(a ask) bool { return a.number > 0 }), "attempt": slices.ContainsFunc(w.tries, func(a ask) bool { return a.number > 0 }), "opened anew": w.log.boots > 2,
	} {
		if is {
			many[what]++
		}
	}
}
