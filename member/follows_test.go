package member_test

import (
	"math/rand/v2"
	"slices"
	"testing"

	"hayloft/api"
)

// somePair draws a node of a cluster, most of them with a store.
func somePair(t *testing.T, r *rand.Rand) *pair {
	c := four()
	if r.IntN(2) == 0 {
		c = two()
	}
	return newPair(t, c, r.IntN(c.Nodes), r.IntN(4) > 0)
}

// tally counts what was said, by its kind, apart what says no, or that something is lacking.
func tally(counts map[[2]int]int, said []api.Message) {
	for _, x := range said {
		no := 0
		if x.No || x.Wiped || x.Kind == api.MsgVote && !x.Yes {
			no = 1
		}
		counts[[2]int{x.Kind, no}]++
	}
}

// Whatever a node hears, it says, and has, what the chapter tells; and so it is opened anew.
func TestAnyMessages(t *testing.T) {
	counts := map[[2]int]int{}
	for seed := range uint64(150) {
		r := rand.New(rand.NewPCG(20, seed))
		p := somePair(t, r)
		var late []api.Message
		for range 150 {
			x := someMessage(r, p.w)
			if len(late) > 0 && r.IntN(8) == 0 {
				x = late[r.IntN(len(late))]
			}
			late = append(late, x)
			through := p.w.through()
			tally(counts, p.take(x))
			if p.m.Store() != nil && p.m.Store().Through() < through {
				t.Error("P20.6: through goes back")
			}
			if r.IntN(40) == 0 || p.w.lost && r.IntN(10) == 0 {
				p.anew()
			}
			wantSaid(t, "P20.3: Tick", p.m.Tick(), p.w.hello(0)...)
			if t.Failed() {
				t.Fatal("seed", seed)
			}
		}
	}
	for _, kind := range []int{api.MsgVote, api.MsgHello, api.MsgRows} {
		if counts[[2]int{kind, 0}] < 300 || counts[[2]int{kind, 1}] < 300 {
			t.Error("too few of kind", kind, counts)
		}
	}
	for _, kind := range []int{api.MsgThrough, api.MsgCopy, api.MsgJoined} {
		if counts[[2]int{kind, 0}] < 400 {
			t.Error("too few of kind", kind, counts)
		}
	}
}

// stages are the worlds of which one is found, if the disk dies while it takes a message.
func stages(w *world, x api.Message) []*world {
	after := w.clone()
	after.take(x)
	l := []*world{w}
	if x.Kind == api.MsgPrepare {
		for _, txn := range w.prepared() {
			forgot := l[len(l)-1].clone()
			delete(forgot.kept.prepared, txn)
			if txn < x.Txn {
				l = append(l, forgot)
			}
		}
	}
	if w.kept == nil && after.kept != nil {
		l = append(l, w.clone().format())
	}
	return append(l, after)
}

// Wherever the disk dies, nothing is said, then and later; what is found is what was there, or what was to be there, or, of what is done one by one, the first things.
func TestDies(t *testing.T) {
	deaths := map[int]int{}
	found := map[string]int{}
	for seed := range uint64(60) {
		r := rand.New(rand.NewPCG(21, seed))
		p := somePair(t, r)
		for range 60 {
			x := someMessage(r, p.w)
			for n := 0; ; n++ {
				q := &pair{t, p.d.Clone(), nil, p.w.anew()}
				q.m = open(t, "ahead of a crash", q.w.c, q.d, q.w.node)
				for _, y := range p.w.copies { // what was gathered so far
					if !p.w.ended {
						q.take(y)
					}
				}
				q.d.Arm(n)
				said := q.m.Take(deep(x))
				if !q.d.Dead() {
					break
				}
				wantSaid(t, "P20.4: as the disk dies", said)
				deaths[x.Kind]++
				dying(t, r, q, x, found)
			}
			p.take(x)
			if t.Failed() {
				t.Fatal("seed", seed)
			}
		}
	}
	for _, kind := range []int{api.MsgPrepare, api.MsgDecide, api.MsgMark, api.MsgCopy} {
		if deaths[kind] < 50 {
			t.Error("too few deaths by kind", kind, deaths)
		}
	}
	if found["before"] < 500 || found["between"] < 500 || found["after"] < 500 {
		t.Error("too few that were found:", found)
	}
}

// dying is a pair whose disk died with x.
func dying(t *testing.T, r *rand.Rand, p *pair, x api.Message, found map[string]int) {
	t.Helper()
	wantSilent(t, p, x)
	for _, keep := range []int{0, 1 << 30, r.IntN(60)} {
		d := p.d.Crash(slices.Repeat([]int{keep}, len(p.d.Names())))
		m := open(t, "behind a crash", p.w.c, d, p.w.node)
		l := stages(p.w, x)
		place := slices.IndexFunc(l, func(w *world) bool { return w.anew().unlike(m) == "" })
		switch place {
		case -1:
			t.Errorf("P20.4: behind a crash with %+v: %s, or %s", x, l[0].anew().unlike(m), l[len(l)-1].anew().unlike(m))
		case 0:
			found["before"]++
		case len(l) - 1:
			found["after"]++
		default:
			found["between"]++
		}
		if m.Store() != nil && m.Store().Through() < p.w.through() {
			t.Error("P20.6: through goes back behind a crash")
		}
	}
}

func wantSilent(t *testing.T, p *pair, x api.Message) {
	t.Helper()
	l := append(oneOfEach(), x)
	for _, at := range p.w.segments() {
		l = append(l, api.Message{Kind: api.MsgCopy, Attempt: p.w.attempt, Since: p.w.since, Epoch: p.w.upto, At: at})
	}
	for _, y := range l {
		y.To = p.w.node
		if y.Kind != api.MsgCopy {
			y.From = p.w.c.Nodes
		}
		wantSaid(t, "P20.4: on a dead disk", p.m.Take(y))
	}
	wantSaid(t, "P20.3: Tick, on a dead disk", p.m.Tick())
}
