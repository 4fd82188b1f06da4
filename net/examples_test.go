package net_test

import (
	"slices"
	"testing"

	"hayloft/api"
	"hayloft/net"
)

// The chapter's examples, as they stand there.
func TestExamples(t *testing.T) {
	n := net.New(3)
	wantErrno(t, "Send(1, a)", n.Send(1, []byte("a")), api.OK)
	wantErrno(t, "Send(2, b)", n.Send(2, []byte("b")), api.OK)
	wantErrno(t, "Double(0)", n.Double(0), api.OK)
	wantErrno(t, "Send(1, c)", n.Send(1, []byte("c")), api.ErrNetFull)
	if n.Len() != 3 {
		t.Error("Len:", n.Len())
	}

	to, b, ok := n.At(2)
	wantSaid(t, "At(2)", to, b, ok, said{1, "a"})
	to, b, ok = n.At(3)
	wantNothing(t, "At(3)", to, b, ok)
	to, b, ok = n.At(-1)
	wantNothing(t, "At(-1)", to, b, ok)

	if l := told(n, 1); !slices.Equal(l, []placed{{0, "a"}, {2, "a"}}) {
		t.Errorf("To(1): %+v", l)
	}

	to, b, ok = n.Take(0)
	wantSaid(t, "Take(0)", to, b, ok, said{1, "a"})
	if n.Len() != 2 {
		t.Error("Len:", n.Len())
	}
	to, b, ok = n.At(0)
	wantSaid(t, "At(0)", to, b, ok, said{2, "b"})
	if n.Drop(5) {
		t.Error("Drop(5): true")
	}
	wantErrno(t, "Double(2)", n.Double(2), api.ErrNetNone)
}
