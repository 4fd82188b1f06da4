package net_test

import (
	"slices"
	"testing"

	"hayloft/api"
	"hayloft/net"
)

func TestTo(t *testing.T) {
	n, all := aNet(t, 5)
	for _, to := range []int{1, 2, -7, 0, 7, 1 << 40} {
		wantTold(t, "P5.4: To", n, to, all)
	}
	if l := told(n, 1); !slices.Equal(l, []placed{{0, "a"}, {2, ""}, {4, "a"}}) {
		t.Errorf("P5.4: To(1): %+v", l)
	}
	wantFlight(t, "P5.4: To changes nothing", n, all...)
	for i, b := range net.New(3).To(0) {
		t.Errorf("P5.4: an empty net gives %d, %q", i, b)
	}
}

func TestToIsLeft(t *testing.T) {
	n, _ := aNet(t, 5)
	seq := n.To(1)
	for often := range 5 {
		var l []placed
		for i, b := range seq {
			if len(l) == often {
				break
			}
			l = append(l, placed{i, string(b)})
		}
		whole := []placed{{0, "a"}, {2, ""}, {4, "a"}}
		if !slices.Equal(l, whole[:min(often, 3)]) {
			t.Errorf("P5.4: left behind %d: %+v", often, l)
		}
	}
}

func TestToGoneOverAgain(t *testing.T) {
	n, _ := aNet(t, 6)
	seq := n.To(1)
	over := func() []placed {
		var l []placed
		for i, b := range seq {
			l = append(l, placed{i, string(b)})
		}
		return l
	}
	for range 3 {
		if l := over(); !slices.Equal(l, []placed{{0, "a"}, {2, ""}, {4, "a"}}) {
			t.Errorf("R11: gone over again: %+v", l)
		}
	}
	n.Drop(1)
	n.Send(1, []byte("new"))
	if l := over(); !slices.Equal(l, []placed{{0, "a"}, {1, ""}, {3, "a"}, {4, "new"}}) {
		t.Errorf("P5.4: it tells what there is when a range begins: %+v", l)
	}
	for n.Drop(0) {
	}
	if l := over(); len(l) != 0 {
		t.Errorf("P5.4: all are gone: %+v", l)
	}
}

// doings are all that can be done to a net.
func doings() []func(n *net.Net) {
	return []func(n *net.Net){
		func(n *net.Net) { n.Drop(0) },
		func(n *net.Net) { n.Drop(2) },
		func(n *net.Net) { n.Drop(n.Len() - 1) },
		func(n *net.Net) { n.Take(0) },
		func(n *net.Net) { n.Take(1) },
		func(n *net.Net) { n.Send(1, []byte("new")) },
		func(n *net.Net) { n.Double(0) },
		func(n *net.Net) { n.Double(3) },
		func(n *net.Net) { n.Drop(0); n.Send(1, []byte("new")) },
		func(n *net.Net) { n.Drop(0); n.Double(0); n.Drop(0); n.Send(1, []byte("new")) },
		func(n *net.Net) {
			for n.Drop(0) {
			}
		},
	}
}

func TestToWhileOtherThingsAreDone(t *testing.T) {
	for k, do := range doings() {
		n, _ := aNet(t, 20)
		var l []placed
		for i, b := range n.To(1) {
			l = append(l, placed{i, string(b)})
			do(n)
		}
		if !slices.Equal(l, []placed{{0, "a"}, {2, ""}, {4, "a"}}) {
			t.Errorf("P5.4: doing %d while it goes on: %+v", k, l)
		}
	}
}

func TestRangesInRanges(t *testing.T) {
	n, _ := aNet(t, 20)
	seq := n.To(1)
	var sizes []int
	for range seq {
		k := 0
		for range seq {
			k++
			n.Send(1, nil)
		}
		sizes = append(sizes, k)
	}
	if !slices.Equal(sizes, []int{3, 6, 12}) {
		t.Errorf("P5.4: each range begins by itself: %v", sizes)
	}
	if n.Len() != 20 || n.Send(1, nil) != api.ErrNetFull {
		t.Error("P5.2: the room holds while a range goes on:", n.Len())
	}
}
