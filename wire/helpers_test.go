package wire_test

import (
	"bytes"
	"encoding/binary"
	"encoding/hex"
	"fmt"
	"hash/crc32"
	"slices"
	"strings"
	"testing"

	"hayloft/api"
	"hayloft/value"
	"hayloft/wire"
)

// unhex is the bytes of hexadecimal digits; spaces are left out.
func unhex(t *testing.T, s string) []byte {
	t.Helper()
	b, err := hex.DecodeString(strings.ReplaceAll(s, " ", ""))
	if err != nil {
		t.Fatal(err)
	}
	return b
}

// framed is a frame of any body, as another writer tells it.
func framed(body []byte) []byte {
	b := binary.BigEndian.AppendUint32(nil, uint32(len(body)))
	b = binary.BigEndian.AppendUint32(b, crc32.ChecksumIEEE(b))
	b = append(b, body...)
	return binary.BigEndian.AppendUint32(b, crc32.ChecksumIEEE(body))
}

// bodyOf is what a frame has.
func bodyOf(b []byte) []byte { return slices.Clone(b[8 : len(b)-4]) }

func seg(proj, seg int) api.Segment { return api.Segment{Proj: proj, Seg: seg} }

func id(epoch uint64, number uint32) api.RowId { return api.RowId{Epoch: epoch, Number: number} }

func row(l ...api.Value) []api.Value { return l }

// insert is a version that comes.
func insert(at api.Segment, number uint32, l ...api.Value) api.Insert {
	return api.Insert{At: at, Ver: api.Version{Id: id(0, number), Row: l}}
}

// prepare is a message with that part.
func prepare(inserts []api.Insert, erases []api.Erase) api.Message {
	return api.Message{Kind: api.MsgPrepare, Part: api.Part{Inserts: inserts, Erases: erases}}
}

// sameVersion tells whether two versions are the same; a nil row and an empty one are.
func sameVersion(a, b api.Version) bool {
	return a.Id == b.Id && a.Deleted == b.Deleted && slices.Equal(a.Row, b.Row)
}

// scalar is all of a message but its lists.
type scalar struct {
	kind, from, to, node                        int
	txn, base, epoch, since, mark, ask, attempt uint64
	yes, no, wiped                              bool
	at                                          api.Segment
}

func scalarOf(m api.Message) scalar {
	return scalar{m.Kind, m.From, m.To, m.Node, m.Txn, m.Base, m.Epoch, m.Since, m.Mark, m.Ask, m.Attempt, m.Yes, m.No, m.Wiped, m.At}
}

// same tells whether two messages are; a nil list and an empty one are.
func same(a, b api.Message) bool {
	return scalarOf(a) == scalarOf(b) && slices.EqualFunc(a.Versions, b.Versions, sameVersion) && slices.Equal(a.Part.Erases, b.Part.Erases) &&
		slices.EqualFunc(a.Part.Inserts, b.Part.Inserts, func(x, y api.Insert) bool { return x.At == y.At && sameVersion(x.Ver, y.Ver) })
}

// short tells a message, or its beginning: some are very long.
func short(m api.Message) string {
	if len(m.Versions)+len(m.Part.Inserts)+len(m.Part.Erases) > 100 {
		return fmt.Sprintf("a long one: %+v", scalarOf(m))
	}
	return fmt.Sprintf("%+v", m)
}

// wantWritten wants that m is written as a frame of body, and read from it.
func wantWritten(t *testing.T, what string, m api.Message, body []byte) {
	t.Helper()
	want := framed(body)
	if b, e := wire.Encode(m); e != api.OK || !bytes.Equal(b, want) {
		t.Errorf("P17.1: %s: Encode: %.100x, %d, want %.100x", what, b, e, want)
	}
	if !wire.Right(m) {
		t.Errorf("P17.1: %s: it is not right", what)
	}
	if got, e := wire.Decode(want); e != api.OK || !same(got, m) {
		t.Errorf("P17.2: %s: Decode: %s, %d, want %s", what, short(got), e, short(m))
	}
}

// wantRefused wants that m can't be written.
func wantRefused(t *testing.T, what string, m api.Message) {
	t.Helper()
	if b, e := wire.Encode(m); len(b) != 0 || e != api.ErrWireForm {
		t.Errorf("P17.1: %s: Encode: %.100x, %d", what, b, e)
	}
	if wire.Right(m) {
		t.Errorf("P17.1: %s: it is right", what)
	}
}

// wantNone wants that b is no message's bytes.
func wantNone(t *testing.T, what string, b []byte) {
	t.Helper()
	if m, e := wire.Decode(b); e != api.ErrWireForm || !same(m, api.Message{}) {
		t.Errorf("P17.2: %s: Decode(%.100x): %s, %d", what, b, short(m), e)
	}
}

// model is the body of a message, as the chapter tells it.
type model struct{ b []byte }

func (w *model) bytes(l ...int) *model {
	for _, x := range l {
		w.b = append(w.b, byte(x))
	}
	return w
}

func (w *model) long(l ...uint64) *model {
	for _, n := range l {
		w.b = binary.BigEndian.AppendUint64(w.b, n)
	}
	return w
}

func (w *model) word(n uint32) *model {
	w.b = binary.BigEndian.AppendUint32(w.b, n)
	return w
}

func (w *model) number(n int) *model {
	switch {
	case n < 253:
		return w.bytes(n)
	case n < 1<<16:
		return w.bytes(253, n>>8, n)
	}
	return w.bytes(254).word(uint32(n))
}

func (w *model) truth(is bool) *model {
	if is {
		return w.bytes(1)
	}
	return w.bytes(0)
}

func (w *model) segment(at api.Segment) *model { return w.number(at.Proj).number(at.Seg) }

func (w *model) name(id api.RowId) *model { return w.long(id.Epoch).word(id.Number) }

func (w *model) row(l []api.Value) *model {
	in := &model{}
	in.bytes(len(l))
	for _, v := range l {
		in.bytes(v.Kind)
		switch v.Kind {
		case api.KindBool:
			in.truth(v.Bool)
		case api.KindInt:
			in.long(uint64(v.Int))
		case api.KindText:
			in.bytes(len(v.Text))
			in.b = append(in.b, v.Text...)
		}
	}
	w.number(len(in.b))
	w.b = append(w.b, in.b...)
	return w
}

func (w *model) versions(l []api.Version) *model {
	w.number(len(l))
	for _, v := range l {
		w.name(v.Id).row(v.Row).long(v.Deleted)
	}
	return w
}

func (w *model) part(p api.Part) *model {
	w.number(len(p.Inserts))
	for _, i := range p.Inserts {
		w.segment(i.At).word(i.Ver.Id.Number).row(i.Ver.Row)
	}
	w.number(len(p.Erases))
	for _, e := range p.Erases {
		w.segment(e.At).name(e.Id)
	}
	return w
}

// modelOf is the body of a message that can be written.
func modelOf(m api.Message) []byte {
	w := (&model{}).bytes(m.Kind, m.From, m.To)
	switch m.Kind {
	case api.MsgPrepare:
		w.long(m.Txn, m.Base).part(m.Part)
	case api.MsgVote:
		w.long(m.Txn).truth(m.Yes)
	case api.MsgDecide:
		w.long(m.Epoch, m.Txn)
	case api.MsgThrough:
		w.long(m.Epoch, m.Mark)
	case api.MsgScan:
		w.long(m.Ask, m.Epoch).segment(m.At)
	case api.MsgRows:
		w.long(m.Ask).segment(m.At).truth(m.No).versions(m.Versions)
	case api.MsgHello:
		w.long(m.Ask, m.Epoch).truth(m.Wiped)
	case api.MsgFetch:
		w.bytes(m.Node).long(m.Attempt).segment(m.At).long(m.Since, m.Epoch)
	case api.MsgCopy:
		w.long(m.Attempt).segment(m.At).long(m.Since, m.Epoch, m.Mark).versions(m.Versions)
	case api.MsgJoined:
		w.long(m.Attempt, m.Epoch)
	case api.MsgMark:
		w.long(m.Mark)
	case api.MsgProbe:
		w.long(m.Ask)
	}
	return w.b
}

// each is one message of each kind, all that it names in it.
func each() []api.Message {
	at := seg(3, 300)
	l := []api.Version{{Id: id(4, 5), Row: row(value.Int(-3), value.Text("ab"), value.Null(), value.Bool(true)), Deleted: 6}, {Id: id(7, 8)}}
	p := api.Part{Inserts: []api.Insert{insert(at, 9, value.Int(1)), insert(seg(0, 0), 0)}, Erases: []api.Erase{{At: at, Id: id(10, 11)}, {}}}
	return []api.Message{
		{Kind: api.MsgPrepare, From: 8, To: 7, Txn: 1, Base: 2, Part: p},
		{Kind: api.MsgVote, From: 1, To: 8, Txn: 3, Yes: true},
		{Kind: api.MsgDecide, From: 2, To: 1, Epoch: 4, Txn: 5},
		{Kind: api.MsgThrough, From: 2, To: 1, Epoch: 6, Mark: 7},
		{Kind: api.MsgScan, From: 2, To: 1, Ask: 8, Epoch: 9, At: at},
		{Kind: api.MsgRows, From: 2, To: 1, Ask: 10, At: at, No: true, Versions: l},
		{Kind: api.MsgHello, From: 2, To: 1, Ask: 11, Epoch: 12, Wiped: true},
		{Kind: api.MsgFetch, From: 2, To: 1, Node: 3, Attempt: 13, At: at, Since: 14, Epoch: 15},
		{Kind: api.MsgCopy, From: 2, To: 1, Attempt: 16, At: at, Since: 17, Epoch: 18, Mark: 19, Versions: l},
		{Kind: api.MsgJoined, From: 2, To: 1, Attempt: 20, Epoch: 21},
		{Kind: api.MsgMark, From: 2, To: 1, Mark: 22},
		{Kind: api.MsgProbe, From: 2, To: 1, Ask: 23},
	}
}
