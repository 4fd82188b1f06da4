package net_test

import (
	"math/rand/v2"
	"slices"
	"strconv"
	"testing"

	"hayloft/api"
	"hayloft/net"
)

// onBoth does one thing to a net and to a plain list, and says that both answer the same. It answers what there is now.
func onBoth(t *testing.T, r *rand.Rand, n *net.Net, l []said, room int) []said {
	t.Helper()
	i := r.IntN(len(l)+4) - 2
	is := i >= 0 && i < len(l)
	switch op := r.IntN(7); {
	case op < 3:
		m := said{r.IntN(3) - 1, "abcdef"[:r.IntN(7)]}
		if len(l) >= room {
			wantErrno(t, "P5.2: Send", n.Send(m.To, []byte(m.Bytes)), api.ErrNetFull)
			return l
		}
		wantErrno(t, "P5.2: Send", n.Send(m.To, []byte(m.Bytes)), api.OK)
		return append(l, m)
	case op == 3 && !is:
		wantErrno(t, "P5.3: Double", n.Double(i), api.ErrNetNone)
		return l
	case op == 3 && len(l) >= room:
		wantErrno(t, "P5.3: Double", n.Double(i), api.ErrNetFull)
		return l
	case op == 3:
		wantErrno(t, "P5.3: Double", n.Double(i), api.OK)
		return append(l, l[i])
	case op == 4:
		if n.Drop(i) != is {
			t.Errorf("P5.3: Drop(%d): %v", i, !is)
		}
	default:
		to, b, ok := n.Take(i)
		if !is {
			wantNothing(t, "P5.3: Take", to, b, ok)
		} else {
			wantSaid(t, "P5.3: Take", to, b, ok, l[i])
		}
	}
	if !is {
		return l
	}
	return slices.Delete(l, i, i+1)
}

func TestAgainstAList(t *testing.T) {
	r := rand.New(rand.NewPCG(5, 1))
	for range 200 {
		room := r.IntN(12) - 1
		n := net.New(room)
		var l []said
		for range 100 {
			l = onBoth(t, r, n, l, room)
			wantFlight(t, "P5.3: in flight", n, l...)
			if r.IntN(10) == 0 {
				n = n.Clone()
			}
			if t.Failed() {
				return
			}
		}
	}
}

// count is how often a message was laid in, and how often it came out.
type count struct{ sent, doubled, dropped, taken int }

func TestTakenAsOftenAsSent(t *testing.T) {
	r := rand.New(rand.NewPCG(5, 2))
	for range 50 {
		n := net.New(20)
		counts := make([]count, 10)
		for range 500 {
			who := r.IntN(len(counts))
			i := r.IntN(20)
			to, _, _ := n.At(i)
			switch r.IntN(4) {
			case 0:
				if n.Send(who, []byte(strconv.Itoa(who))) == api.OK {
					counts[who].sent++
				}
			case 1:
				if n.Double(i) == api.OK {
					counts[to].doubled++
				}
			case 2:
				if n.Drop(i) {
					counts[to].dropped++
				}
			case 3:
				if to, _, ok := n.Take(i); ok {
					counts[to].taken++
				}
			}
			wantCounts(t, n, counts)
		}
	}
}

// wantCounts says of each message that it was taken as often as it was laid in, less those that were dropped or are in flight.
func wantCounts(t *testing.T, n *net.Net, counts []count) {
	t.Helper()
	for who, c := range counts {
		l := told(n, who)
		if c.taken != c.sent+c.doubled-c.dropped-len(l) {
			t.Fatalf("P5.5: %d: %+v, in flight %d", who, c, len(l))
		}
		for _, p := range l {
			if p.Bytes != strconv.Itoa(who) {
				t.Fatalf("P5.5: a message to %d says %q", who, p.Bytes)
			}
		}
	}
}

func TestTakenInTheOrderOfSending(t *testing.T) {
	r := rand.New(rand.NewPCG(5, 3))
	n := net.New(50)
	sent, taken := 0, 0
	for taken < 5000 {
		if r.IntN(2) == 0 && n.Send(r.IntN(4), []byte(strconv.Itoa(sent))) == api.OK {
			sent++
			continue
		}
		if _, b, ok := n.Take(0); ok {
			if string(b) != strconv.Itoa(taken) {
				t.Fatalf("P5.6: taken %q, want %d", b, taken)
			}
			taken++
		}
	}
}

// As many as a cluster may have in flight, and one more.
func TestMany(t *testing.T) {
	n := net.New(api.MaxFlight)
	for i := range api.MaxFlight {
		if n.Send(i%3, []byte(strconv.Itoa(i))) != api.OK {
			t.Fatal("P5.2: Send", i)
		}
	}
	wantErrno(t, "P5.2: Send", n.Send(1, nil), api.ErrNetFull)
	wantErrno(t, "P5.3: Double", n.Double(7), api.ErrNetFull)
	if l := told(n, 2); len(l) != api.MaxFlight/3 || l[1].Place != 5 {
		t.Error("P5.4: To:", len(l))
	}
	for i := range api.MaxFlight {
		if to, b, ok := n.Take(0); to != i%3 || string(b) != strconv.Itoa(i) || !ok {
			t.Fatal("P5.6: Take", i, to, string(b), ok)
		}
	}
	wantFlight(t, "P5.3: all are taken", n)
}
