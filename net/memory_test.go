package net_test

import (
	"slices"
	"testing"

	"hayloft/api"
	"hayloft/net"
)

// spoil writes over bytes and the spare room behind them.
func spoil(b []byte) {
	b = b[:cap(b)]
	for i := range b {
		b[i] = '!'
	}
}

func TestWhatIsHandedIn(t *testing.T) {
	n := net.New(9)
	b := []byte("12345678")
	wantErrno(t, "Send", n.Send(1, b[:3:6]), api.OK)
	wantErrno(t, "Send", n.Send(1, b[3:5]), api.OK)
	wantErrno(t, "Double", n.Double(0), api.OK)
	n.Drop(1)
	if string(b) != "12345678" {
		t.Errorf("R5: changed: %q", b)
	}
	spoil(b)
	wantFlight(t, "R5: kept", n, said{1, "123"}, said{1, "123"})
}

func TestNoBytes(t *testing.T) {
	n := net.New(9)
	wantErrno(t, "Send of nil", n.Send(1, nil), api.OK)
	wantErrno(t, "Send of none", n.Send(1, []byte{}), api.OK)
	spare := []byte("123")
	wantErrno(t, "Send of none with spare room", n.Send(1, spare[:0]), api.OK)
	for i := range 3 {
		_, b, _ := n.At(i)
		spoil(b)
	}
	wantFlight(t, "R4: none is none", n, said{1, ""}, said{1, ""}, said{1, ""})
	if string(spare) != "123" {
		t.Errorf("R5: spare room changed: %q", spare)
	}
}

// answers are all bytes that a net answers.
func answers(n *net.Net) [][]byte {
	var l [][]byte
	for i := range n.Len() {
		to, b, _ := n.At(i)
		l = append(l, b)
		for _, b := range n.To(to) {
			l = append(l, b)
		}
	}
	return l
}

func TestWhatIsAnswered(t *testing.T) {
	n, all := aNet(t, 20)
	n.Double(0)
	n.Double(1)
	all = append(all, all[0], all[1])
	c := n.Clone()
	l := append(answers(n), answers(c)...)
	for i, b := range l {
		var was []string
		for _, x := range l {
			was = append(was, string(x))
		}
		spoil(b)
		for j, x := range l {
			if j != i && string(x) != was[j] {
				t.Fatalf("R5: answers %d and %d share memory", i, j)
			}
		}
	}
	wantFlight(t, "R5: answers are written to", n, all...)
	wantFlight(t, "R5: answers are written to", c, all...)
}

func TestWhatWasTaken(t *testing.T) {
	n, all := aNet(t, 20)
	n.Double(1)
	_, b, _ := n.Take(1)
	for range 9 {
		n.Send(9, []byte("zz"))
	}
	if string(b) != "bb" {
		t.Errorf("R5: a later call is seen in an answer: %q", b)
	}
	spoil(b)
	to, d, ok := n.At(4)
	wantSaid(t, "R5: the double", to, d, ok, all[1])
}

func TestWhatARangeGives(t *testing.T) {
	n, _ := aNet(t, 20)
	var l []string
	for _, b := range n.To(1) {
		l = append(l, string(b))
		spoil(b)
	}
	for _, b := range n.To(1) {
		l = append(l, string(b))
	}
	if !slices.Equal(l, []string{"a", "", "a", "a", "", "a"}) {
		t.Errorf("R11: new memory each time: %q", l)
	}
}

func TestCloneIsAsTheNet(t *testing.T) {
	n, all := aNet(t, 6)
	n.Drop(0)
	c := n.Clone()
	wantFlight(t, "R7: a clone", c, all[1:]...)
	for _, x := range []*net.Net{n, c} {
		wantErrno(t, "R7: room for two more", x.Send(1, []byte("x")), api.OK)
		wantErrno(t, "R7: room for two more", x.Double(0), api.OK)
		wantErrno(t, "R7: no more", x.Send(1, []byte("x")), api.ErrNetFull)
	}
	if !slices.Equal(flight(n), flight(c)) {
		t.Errorf("R7: both later: %+v, %+v", flight(n), flight(c))
	}
	if e := net.New(-3).Clone().Send(1, nil); e != api.ErrNetFull {
		t.Error("R7: the clone of a net without room:", e)
	}
}

func TestClonesGoTheirOwnWays(t *testing.T) {
	for k, do := range doings() {
		n, all := aNet(t, 20)
		c := n.Clone()
		do(c)
		wantFlight(t, "R7: the clone was changed", n, all...)
		if slices.Equal(flight(c), all) {
			t.Error("doing", k, "does nothing")
		}
		n, _ = aNet(t, 20)
		c = n.Clone()
		do(n)
		wantFlight(t, "R7: the net was changed", c, all...)
	}
}

// Both lay messages in at the same place: neither writes into the other's spare room.
func TestClonesSendAtTheSamePlace(t *testing.T) {
	n, all := aNet(t, 20)
	for len(all) < 12 {
		c := n.Clone()
		c.Send(1, []byte("clone"))
		n.Send(2, []byte("net"))
		wantFlight(t, "R7: the clone", c, append(slices.Clone(all), said{1, "clone"})...)
		all = append(all, said{2, "net"})
		wantFlight(t, "R7: the net", n, all...)
	}
}

func TestRangeOfACloneAndItsNet(t *testing.T) {
	n, all := aNet(t, 20)
	seq := n.To(1)
	c := n.Clone()
	c.Drop(0)
	var l []placed
	for i, b := range seq {
		l = append(l, placed{i, string(b)})
		c.Drop(0)
	}
	if !slices.Equal(l, []placed{{0, "a"}, {2, ""}, {4, "a"}}) {
		t.Errorf("R7: a range over a net sees its clone: %+v", l)
	}
	wantFlight(t, "R7: the clone was changed", c, all[4:]...)
}
