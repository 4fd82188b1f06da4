package net_test

import (
	"slices"
	"testing"

	"hayloft/api"
	"hayloft/net"
)

// said is a message: to whom, and its bytes.
type said struct {
	To    int
	Bytes string
}

// placed is what a range gives: a place, and bytes.
type placed struct {
	Place int
	Bytes string
}

// wantErrno says that a call answered so.
func wantErrno(t *testing.T, what string, got, want api.Errno) {
	t.Helper()
	if got != want {
		t.Errorf("%s: answers %d, want %d", what, got, want)
	}
}

// wantSaid says that At or Take answered a message.
func wantSaid(t *testing.T, what string, to int, b []byte, ok bool, want said) {
	t.Helper()
	if to != want.To || string(b) != want.Bytes || !ok {
		t.Errorf("%s: %d, %q, %v, want %+v", what, to, b, ok, want)
	}
}

// wantNothing says that At or Take answered that there is none.
func wantNothing(t *testing.T, what string, to int, b []byte, ok bool) {
	t.Helper()
	if to != 0 || len(b) != 0 || ok {
		t.Errorf("%s: %d, %q, %v, want none", what, to, b, ok)
	}
}

// wantFlight says that these are in flight, as Len, At and To tell them.
func wantFlight(t *testing.T, what string, n *net.Net, want ...said) {
	t.Helper()
	if n.Len() != len(want) {
		t.Errorf("%s: Len %d, want %d", what, n.Len(), len(want))
	}
	for i, w := range want {
		to, b, ok := n.At(i)
		wantSaid(t, what, to, b, ok, w)
		wantTold(t, what, n, w.To, want)
	}
	for _, i := range []int{-1, len(want)} {
		to, b, ok := n.At(i)
		wantNothing(t, what, to, b, ok)
	}
}

// wantTold says that To gives those of the messages that are told to one.
func wantTold(t *testing.T, what string, n *net.Net, to int, all []said) {
	t.Helper()
	var want []placed
	for i, m := range all {
		if m.To == to {
			want = append(want, placed{i, m.Bytes})
		}
	}
	if got := told(n, to); !slices.Equal(got, want) {
		t.Errorf("%s: To(%d): %+v, want %+v", what, to, got, want)
	}
}

// told is all that a range over To gives.
func told(n *net.Net, to int) []placed {
	var l []placed
	for i, b := range n.To(to) {
		l = append(l, placed{i, string(b)})
	}
	return l
}

// flight is all that is in flight.
func flight(n *net.Net) []said {
	var l []said
	for i := range n.Len() {
		to, b, _ := n.At(i)
		l = append(l, said{to, string(b)})
	}
	return l
}

// aNet has five messages in flight, two of which are the same.
func aNet(t *testing.T, room int) (*net.Net, []said) {
	t.Helper()
	n := net.New(room)
	l := []said{{1, "a"}, {2, "bb"}, {1, ""}, {-7, "c"}, {1, "a"}}
	for _, m := range l {
		wantErrno(t, "P5.2: Send", n.Send(m.To, []byte(m.Bytes)), api.OK)
	}
	return n, l
}
