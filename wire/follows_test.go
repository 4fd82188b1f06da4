package wire_test

import (
	"bytes"
	"math/rand/v2"
	"slices"
	"testing"

	"hayloft/api"
	"hayloft/value"
	"hayloft/wire"
)

func someRow(r *rand.Rand) []api.Value {
	l := make([]api.Value, r.IntN(5)*r.IntN(5))
	for i := range l {
		switch r.IntN(4) {
		case 0:
			l[i] = value.Null()
		case 1:
			l[i] = value.Bool(r.IntN(2) == 0)
		case 2:
			l[i] = value.Int(int64(someLong(r)))
		case 3:
			b := make([]byte, r.IntN(api.MaxText+1)>>r.IntN(7))
			for k := range b {
				b[k] = byte(r.Uint32())
			}
			l[i] = value.Text(string(b))
		}
	}
	return l
}

func someLong(r *rand.Rand) uint64 { return r.Uint64() >> r.IntN(65) }

func someSegment(r *rand.Rand) api.Segment {
	return seg(int(r.Uint32()>>(1+r.IntN(32))), int(r.Uint32()>>(1+r.IntN(32))))
}

func someName(r *rand.Rand) api.RowId { return id(someLong(r), uint32(someLong(r))) }

// some is a list of a few things.
func some[T any](r *rand.Rand, one func(r *rand.Rand) T) []T {
	var l []T
	for range r.IntN(4) * r.IntN(4) {
		l = append(l, one(r))
	}
	return l
}

func someVersion(r *rand.Rand) api.Version {
	return api.Version{Id: someName(r), Row: someRow(r), Deleted: someLong(r)}
}

// someMessage has all that a message can have; only keeps what its kind names.
func someMessage(r *rand.Rand) api.Message {
	m := api.Message{
		Txn: someLong(r), Base: someLong(r), Epoch: someLong(r), Since: someLong(r), Mark: someLong(r), Ask: someLong(r), Attempt: someLong(r),
		Node: r.IntN(9), Yes: r.IntN(2) == 0, No: r.IntN(2) == 0, Wiped: r.IntN(2) == 0, At: someSegment(r), Versions: some(r, someVersion),
	}
	m.Part.Inserts = some(r, func(r *rand.Rand) api.Insert { return insert(someSegment(r), r.Uint32(), someRow(r)...) })
	m.Part.Erases = some(r, func(r *rand.Rand) api.Erase { return api.Erase{At: someSegment(r), Id: someName(r)} })
	m.Kind, m.From, m.To = 1+r.IntN(12), r.IntN(9), r.IntN(9)
	return m
}

// only is a message with what its kind names alone.
func only(m api.Message) api.Message {
	o := api.Message{Kind: m.Kind, From: m.From, To: m.To}
	switch m.Kind {
	case api.MsgPrepare:
		o.Txn, o.Base, o.Part = m.Txn, m.Base, m.Part
	case api.MsgVote:
		o.Txn, o.Yes = m.Txn, m.Yes
	case api.MsgDecide:
		o.Epoch, o.Txn = m.Epoch, m.Txn
	case api.MsgThrough:
		o.Epoch, o.Mark = m.Epoch, m.Mark
	case api.MsgScan:
		o.Ask, o.Epoch, o.At = m.Ask, m.Epoch, m.At
	case api.MsgRows:
		o.Ask, o.At, o.No, o.Versions = m.Ask, m.At, m.No, m.Versions
	case api.MsgHello:
		o.Ask, o.Epoch, o.Wiped = m.Ask, m.Epoch, m.Wiped
	case api.MsgFetch:
		o.Node, o.Attempt, o.At, o.Since, o.Epoch = m.Node, m.Attempt, m.At, m.Since, m.Epoch
	case api.MsgCopy:
		o.Attempt, o.At, o.Since, o.Epoch, o.Mark, o.Versions = m.Attempt, m.At, m.Since, m.Epoch, m.Mark, m.Versions
	case api.MsgJoined:
		o.Attempt, o.Epoch = m.Attempt, m.Epoch
	case api.MsgMark:
		o.Mark = m.Mark
	case api.MsgProbe:
		o.Ask = m.Ask
	}
	return o
}

// P17.3: what was written is read as it was; a message with anything that its kind does not name is not written.
func TestThereAndBack(t *testing.T) {
	r := rand.New(rand.NewPCG(17, 1))
	refused := 0
	for range 20000 {
		m := someMessage(r)
		o := only(m)
		wantWritten(t, "any message", o, modelOf(o))
		if !same(m, o) {
			refused++
			wantRefused(t, "with too much", m)
		}
		if t.Failed() {
			t.Fatalf("%+v", o)
		}
	}
	if refused < 10000 {
		t.Error("too few:", refused)
	}
}

// P17.3: one bit that is turned is found.
func TestBitTurned(t *testing.T) {
	r := rand.New(rand.NewPCG(17, 2))
	l := each()
	for range 100 {
		l = append(l, only(someMessage(r)))
	}
	for _, m := range l {
		b, e := wire.Encode(m)
		if e != api.OK {
			t.Fatal("P17.1: Encode:", e)
		}
		for i := range 8 * len(b) {
			b[i/8] ^= 1 << (i % 8)
			wantNone(t, "a bit turned", b)
			b[i/8] ^= 1 << (i % 8)
		}
	}
}

// spoilt is a body with something in it changed, put in or taken out.
func spoilt(r *rand.Rand, body []byte) []byte {
	b := slices.Clone(body)
	for range 1 + r.IntN(2) {
		at := r.IntN(len(b))
		switch r.IntN(4) {
		case 0:
			b[at] = byte(r.Uint32()) >> r.IntN(8)
		case 1:
			b[at] += byte(1 - 2*r.IntN(2))
		case 2:
			b = slices.Insert(b, at, byte(r.Uint32())>>r.IntN(8))
		case 3:
			if len(b) > 1 {
				b = slices.Delete(b, at, at+1)
			}
		}
	}
	return b
}

// P17.3: what is read, of whatever bytes in a frame that is right, is written as the same bytes.
func TestWhatIsReadIsWritten(t *testing.T) {
	r := rand.New(rand.NewPCG(17, 3))
	read, none := 0, 0
	for range 200000 {
		b := framed(spoilt(r, modelOf(only(someMessage(r)))))
		m, e := wire.Decode(b)
		if e != api.OK {
			none++
			wantNone(t, "spoilt", b)
			continue
		}
		read++
		if again, e := wire.Encode(m); e != api.OK || !bytes.Equal(again, b) || !same(m, only(m)) {
			t.Fatalf("P17.3: %x is read as %+v, and that is written %x, %d", b, m, again, e)
		}
	}
	if read < 10000 || none < 10000 {
		t.Error("too few:", read, none)
	}
}

// R1: of any bytes, in a frame or not, Decode ends.
func TestAnyBytes(t *testing.T) {
	r := rand.New(rand.NewPCG(17, 4))
	for range 100000 {
		b := make([]byte, 1+r.IntN(60))
		for i := range b {
			b[i] = byte(r.Uint32()) >> r.IntN(9)
		}
		b[0] = byte(r.IntN(14))
		wire.Decode(b)
		if m, e := wire.Decode(framed(b)); e == api.OK && !bytes.Equal(modelOf(m), b) {
			t.Fatalf("P17.2: %x is read as %+v", b, m)
		}
	}
}
