package wire_test

import (
	"bytes"
	"slices"
	"testing"

	"hayloft/api"
	"hayloft/value"
	"hayloft/wire"
)

// spoil writes over a list and its spare room.
func spoil[T any](l []T, with T) {
	l = l[:cap(l)]
	for i := range l {
		l[i] = with
	}
}

var (
	mark  = api.Value{Kind: 77, Bool: true, Int: 77, Text: "spoilt"}
	other = api.Version{Id: api.RowId{Epoch: 77, Number: 77}, Deleted: 77}
)

// roomy is a list with spare room that has something in it.
func roomy[T any](spare T, l ...T) []T {
	all := append(slices.Clone(l), spare, spare, spare)
	return all[:len(l)]
}

// roomyMessages have lists with spare room, and rows that share memory.
func roomyMessages() []api.Message {
	r := roomy(mark, value.Int(1), value.Text("abc"))
	at := seg(1, 2)
	versions := roomy(other, api.Version{Id: id(1, 2), Row: r, Deleted: 3}, api.Version{Id: id(4, 5), Row: r[:1]}, api.Version{Row: r})
	inserts := roomy(api.Insert{At: at, Ver: other}, api.Insert{At: at, Ver: api.Version{Id: id(0, 6), Row: r}}, api.Insert{Ver: api.Version{Row: r}})
	erases := roomy(api.Erase{At: at, Id: id(77, 77)}, api.Erase{At: at, Id: id(7, 8)}, api.Erase{Id: id(9, 10)})
	return []api.Message{
		{Kind: api.MsgRows, Ask: 1, At: at, Versions: versions},
		{Kind: api.MsgCopy, Attempt: 1, At: at, Versions: versions},
		prepare(inserts, erases),
	}
}

// whole is a message with the spare room of its lists, and of its rows, in memory of its own.
func whole(m api.Message) api.Message {
	m.Versions = slices.Clone(m.Versions[:cap(m.Versions)])
	for i, v := range m.Versions {
		m.Versions[i].Row = slices.Clone(v.Row[:cap(v.Row)])
	}
	m.Part.Inserts = slices.Clone(m.Part.Inserts[:cap(m.Part.Inserts)])
	for i, x := range m.Part.Inserts {
		m.Part.Inserts[i].Ver.Row = slices.Clone(x.Ver.Row[:cap(x.Ver.Row)])
	}
	m.Part.Erases = slices.Clone(m.Part.Erases[:cap(m.Part.Erases)])
	return m
}

// R5: Encode and Right change nothing of a message, also if they refuse it.
func TestMessageStays(t *testing.T) {
	for _, m := range roomyMessages() {
		bad := m
		bad.To = 9
		for _, m := range []api.Message{m, bad} {
			was := whole(m)
			b, e := wire.Encode(m)
			spoil(b, 77)
			if ok := wire.Right(m); ok != (e == api.OK) || !same(whole(m), was) {
				t.Errorf("R5: kind %d is changed: %+v, want %+v", m.Kind, whole(m), was)
			}
		}
	}
}

// R5: what Encode answers is new memory each time, and hangs on the message no more.
func TestBytesAreNew(t *testing.T) {
	for i := range roomyMessages() {
		m := roomyMessages()[i] // each time anew: it is written over in the end
		want := framed(modelOf(m))
		one, _ := wire.Encode(m)
		two, _ := wire.Encode(m)
		spoil(one, 77)
		three, _ := wire.Encode(m)
		for _, v := range m.Versions {
			spoil(v.Row, mark)
		}
		spoil(m.Versions, other)
		spoil(m.Part.Inserts, api.Insert{Ver: other})
		spoil(m.Part.Erases, api.Erase{Id: other.Id})
		if !bytes.Equal(two, want) || !bytes.Equal(three, want) {
			t.Errorf("R5: kind %d: %x and %x, want %x", m.Kind, two, three, want)
		}
	}
}

// R5: Decode changes no bytes, nor those behind their end, and what it answers hangs on them no more.
func TestMessagesAreNew(t *testing.T) {
	for _, m := range roomyMessages() {
		b := roomy(byte(77), framed(modelOf(m))...)
		was := slices.Clone(b[:cap(b)])
		one, _ := wire.Decode(b)
		two, _ := wire.Decode(b)
		if !bytes.Equal(b[:cap(b)], was) {
			t.Errorf("R5: kind %d: its bytes are changed: %x, want %x", m.Kind, b[:cap(b)], was)
		}
		spoil(b, 78)
		for _, v := range one.Versions {
			spoil(v.Row, mark)
		}
		for _, x := range one.Part.Inserts {
			spoil(x.Ver.Row, mark)
		}
		spoil(one.Versions, other)
		spoil(one.Part.Inserts, api.Insert{Ver: other})
		spoil(one.Part.Erases, api.Erase{Id: other.Id})
		if !same(two, m) {
			t.Errorf("R5: kind %d: %+v, want %+v", m.Kind, two, m)
		}
	}
}

// R5: no two rows of one answer share memory, not even spare room.
func TestRowsAreApart(t *testing.T) {
	for _, m := range roomyMessages() {
		got, _ := wire.Decode(framed(modelOf(m)))
		var l, want [][]api.Value
		for _, v := range got.Versions {
			l = append(l, v.Row)
		}
		for _, x := range got.Part.Inserts {
			l = append(l, x.Ver.Row)
		}
		for _, r := range l {
			want = append(want, slices.Clone(r))
		}
		for i, r := range l {
			spoil(r, mark)
			for k := i + 1; k < len(l); k++ {
				if !slices.Equal(l[k], want[k]) {
					t.Errorf("R5: kind %d: row %d is seen in row %d", m.Kind, i, k)
				}
			}
		}
		if len(l) < 2 {
			t.Error("too few rows:", len(l))
		}
	}
}
