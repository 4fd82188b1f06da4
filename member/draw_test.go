package member_test

import (
	"math/rand/v2"

	"hayloft/api"
)

// near is n, or, now and then, one beside it.
func near(r *rand.Rand, n uint64) uint64 {
	if r.IntN(8) == 0 {
		return max(n, 2) - 2 + uint64(r.IntN(5))
	}
	return n
}

// one is any of a list's, or, if there is none, or now and then, the other one.
func one[T any](r *rand.Rand, l []T, other T) T {
	if len(l) == 0 || r.IntN(15) == 0 {
		return other
	}
	return l[r.IntN(len(l))]
}

func someSegment(r *rand.Rand, w *world) api.Segment {
	return one(r, w.segments(), api.Segment{Proj: r.IntN(5) - 1, Seg: r.IntN(5) - 1})
}

func someRow(r *rand.Rand, w *world, at api.Segment) []api.Value {
	columns, here := w.columns[at]
	if !here || r.IntN(60) == 0 {
		columns = r.IntN(3)
	}
	return row(columns, int64(r.IntN(30)))
}

func somePart(r *rand.Rand, w *world) api.Part {
	var p api.Part
	for range r.IntN(4) {
		at := one(r, w.segments(), w.segments()[0])
		p.Inserts = append(p.Inserts, api.Insert{At: at, Ver: api.Version{Id: name(0, uint32(r.IntN(30))), Row: someRow(r, w, at)}})
	}
	for range r.IntN(3) {
		at := someSegment(r, w)
		if l := w.versions(at); len(l) > 0 {
			p.Erases = append(p.Erases, api.Erase{At: at, Id: l[r.IntN(len(l))].Id})
		}
	}
	return p
}

// someCopy draws a copy, mostly one for which the attempt waits.
func someCopy(r *rand.Rand, w *world) api.Message {
	x := api.Message{Kind: api.MsgCopy, From: r.IntN(w.c.Nodes), To: w.node, Attempt: w.attempt, Since: w.since, Epoch: w.upto, At: someSegment(r, w)}
	if w.ended && r.IntN(3) > 0 || r.IntN(40) == 0 {
		x.Attempt, x.Epoch = w.attempt+1+uint64(r.IntN(2)), w.through()+uint64(r.IntN(3))
		x.Since = uint64(r.IntN(int(w.through()) + 1))
		if r.IntN(3) == 0 {
			x.Since = 0
		}
	}
	if r.IntN(12) == 0 {
		x.Attempt, x.Since, x.Epoch = near(r, x.Attempt), near(r, x.Since), near(r, x.Epoch)
	}
	x.Mark = min(w.mark()+uint64(r.IntN(2)), x.Epoch)
	if r.IntN(40) == 0 {
		x.Mark = x.Epoch + 1
	}
	x.Versions = someVersions(r, w, x.At, x.Since, x.Epoch)
	return x
}

// someVersions are such as a giver may have: what is there, and perhaps deleted since, and what has come since.
func someVersions(r *rand.Rand, w *world, at api.Segment, since, upto uint64) []api.Version {
	var l []api.Version
	for _, v := range w.changes(at, 0, upto) {
		if r.IntN(3) > 0 && v.Deleted == 0 && v.Id.Epoch < upto && upto > since {
			v.Deleted = upto
		}
		if since == 0 || v.Deleted > since {
			l = append(l, v)
		}
	}
	if upto > 0 && r.IntN(2) == 0 {
		l = append(l, api.Version{Id: name(near(r, upto), uint32(40+r.IntN(9))), Row: someRow(r, w, at)})
	}
	r.Shuffle(len(l), func(i, k int) { l[i], l[k] = l[k], l[i] })
	return l
}

// someMessage draws a message, most of them such as do something.
func someMessage(r *rand.Rand, w *world) api.Message {
	x := api.Message{From: w.c.Nodes, To: w.node, Ask: uint64(r.IntN(9))}
	latest := uint64(1)
	l := w.prepared()
	if len(l) > 0 {
		latest = l[len(l)-1]
	}
	n := r.IntN(40)
	if n < 20 && len(l) == 0 && r.IntN(10) > 0 { // else it would be lost most of the time
		n = 0
	}
	if w.wiped() && r.IntN(2) == 0 {
		return someCopy(r, w)
	}
	switch {
	case n < 11:
		x.Kind, x.Txn, x.Base, x.Part = api.MsgPrepare, latest+uint64(r.IntN(3)), near(r, w.through()), somePart(r, w)
		if r.IntN(4) == 0 {
			x.Txn = near(r, latest)
		}
	case n < 20:
		x.Kind, x.Epoch, x.Txn = api.MsgDecide, near(r, w.through()+1), latest
		if r.IntN(12) == 0 {
			x.Txn = near(r, latest)
		}
	case n < 22:
		x.Kind, x.Mark = api.MsgMark, near(r, w.mark()+uint64(r.IntN(2)))
	case n < 25:
		x.Kind, x.At, x.Epoch = api.MsgScan, someSegment(r, w), w.mark()+uint64(r.IntN(5))
	case n < 28:
		x.Kind, x.At, x.Epoch, x.Node, x.Attempt = api.MsgFetch, someSegment(r, w), w.mark()+uint64(r.IntN(5)), r.IntN(w.c.Nodes+1), uint64(r.IntN(9))
		x.Since = near(r, w.mark()) * uint64(r.IntN(2))
	case n < 29:
		x.Kind = api.MsgProbe
	case n < 39:
		x = someCopy(r, w)
	default:
		x.Kind = r.IntN(20) - 2
	}
	if r.IntN(40) == 0 {
		x.From = r.IntN(w.c.Nodes+3) - 1
	}
	if r.IntN(60) == 0 {
		x.To = r.IntN(w.c.Nodes+3) - 1
	}
	return x
}
