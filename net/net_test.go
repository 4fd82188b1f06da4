package net_test

import (
	"math"
	"slices"
	"testing"

	"hayloft/api"
	"hayloft/net"
)

func TestNew(t *testing.T) {
	for _, k := range []struct{ room, fit int }{{3, 3}, {1, 1}, {0, 0}, {-1, 0}, {math.MinInt, 0}} {
		n := net.New(k.room)
		wantFlight(t, "P5.1: New", n)
		var all []said
		for i := range k.fit {
			wantErrno(t, "P5.1: there is room", n.Send(i, nil), api.OK)
			all = append(all, said{i, ""})
			wantFlight(t, "P5.1: Len", n, all...)
		}
		wantErrno(t, "P5.1: there is no more room", n.Send(0, nil), api.ErrNetFull)
		wantFlight(t, "P5.1: Len", n, all...)
	}
	n := net.New(math.MaxInt)
	for i := range 1000 {
		wantErrno(t, "P5.1: much room", n.Send(i, nil), api.OK)
	}
	if n.Len() != 1000 {
		t.Error("P5.1: Len:", n.Len())
	}
}

func TestSend(t *testing.T) {
	n := net.New(6)
	all := []said{{3, "x"}, {0, ""}, {-1, "y\x00"}, {math.MinInt, "\xff"}, {math.MaxInt, string(make([]byte, 5000))}, {3, "x"}}
	for i, m := range all {
		wantErrno(t, "P5.2: Send", n.Send(m.To, []byte(m.Bytes)), api.OK)
		wantFlight(t, "P5.2: behind all others", n, all[:i+1]...)
	}
	for range 3 {
		wantErrno(t, "P5.2: Send to a full net", n.Send(1, []byte("z")), api.ErrNetFull)
		wantErrno(t, "P5.2: Send of no byte to a full net", n.Send(1, nil), api.ErrNetFull)
		wantFlight(t, "R2: Send refused", n, all...)
	}
	n.Drop(1)
	wantErrno(t, "P5.2: there is room again", n.Send(1, []byte("z")), api.OK)
	wantFlight(t, "P5.2: behind all others", n, all[0], all[2], all[3], all[4], all[5], said{1, "z"})
	wantErrno(t, "P5.2: full again", n.Send(1, []byte("z")), api.ErrNetFull)
}

// noPlaces are none where five messages are.
func noPlaces() []int { return []int{5, 6, -1, -5, math.MinInt, math.MaxInt} }

func TestNoPlace(t *testing.T) {
	for _, room := range []int{5, 9} {
		n, all := aNet(t, room)
		for _, i := range noPlaces() {
			to, b, ok := n.At(i)
			wantNothing(t, "P5.3: At no place", to, b, ok)
			to, b, ok = n.Take(i)
			wantNothing(t, "P5.3: Take from no place", to, b, ok)
			if n.Drop(i) {
				t.Errorf("P5.3: Drop(%d): true", i)
			}
			wantErrno(t, "P5.3: no place is told ahead of no room", n.Double(i), api.ErrNetNone)
			wantFlight(t, "R2: no place", n, all...)
		}
	}
	for _, room := range []int{-1, 0, 3} {
		n := net.New(room)
		to, b, ok := n.Take(0)
		wantNothing(t, "P5.3: Take from an empty net", to, b, ok)
		if n.Drop(0) || n.Double(0) != api.ErrNetNone || n.Len() != 0 {
			t.Error("P5.3: Drop, Double, Len of an empty net")
		}
	}
}

func TestAt(t *testing.T) {
	n, all := aNet(t, 5)
	for range 2 {
		for i, m := range all {
			to, b, ok := n.At(i)
			wantSaid(t, "P5.3: At", to, b, ok, m)
			wantFlight(t, "P5.3: At takes nothing out", n, all...)
		}
	}
}

func TestTakeAndDrop(t *testing.T) {
	for i := range 5 {
		n, all := aNet(t, 5)
		to, b, ok := n.Take(i)
		wantSaid(t, "P5.3: Take", to, b, ok, all[i])
		rest := slices.Delete(slices.Clone(all), i, i+1)
		wantFlight(t, "P5.3: those behind it move up", n, rest...)

		d, _ := aNet(t, 5)
		if !d.Drop(i) {
			t.Errorf("P5.3: Drop(%d): false", i)
		}
		wantFlight(t, "P5.3: those behind it move up", d, rest...)

		for _, x := range []*net.Net{n, d} {
			wantErrno(t, "P5.3: there is room for one", x.Send(4, []byte("new")), api.OK)
			wantErrno(t, "P5.3: for one alone", x.Send(4, []byte("new")), api.ErrNetFull)
			wantFlight(t, "P5.2: behind all others", x, append(slices.Clone(rest), said{4, "new"})...)
		}
	}
}

func TestTakenToTheLast(t *testing.T) {
	for _, from := range []int{0, 4} {
		n, all := aNet(t, 5)
		for left := 4; left >= 0; left-- {
			i := min(from, left)
			to, b, ok := n.Take(i)
			wantSaid(t, "P5.3: Take", to, b, ok, all[i])
			all = slices.Delete(all, i, i+1)
			wantFlight(t, "P5.3: Take", n, all...)
		}
		to, b, ok := n.Take(0)
		wantNothing(t, "P5.3: all are taken", to, b, ok)
		wantErrno(t, "P5.2: Send again", n.Send(1, []byte("x")), api.OK)
		wantFlight(t, "P5.2: Send again", n, said{1, "x"})
	}
}

func TestDouble(t *testing.T) {
	for i := range 5 {
		n, all := aNet(t, 6)
		wantErrno(t, "P5.3: Double", n.Double(i), api.OK)
		all = append(all, all[i])
		wantFlight(t, "P5.3: one like it behind all others", n, all...)
		for j := range 6 {
			wantErrno(t, "P5.3: Double in a full net", n.Double(j), api.ErrNetFull)
		}
		wantErrno(t, "P5.3: Double of no place in a full net", n.Double(6), api.ErrNetNone)
		wantFlight(t, "R2: Double refused", n, all...)
		n.Drop(i)
		wantFlight(t, "P5.3: the one outlives the other", n, slices.Delete(all, i, i+1)...)
		wantErrno(t, "P5.3: a double is doubled", n.Double(4), api.OK)
	}
}
