package wos_test

import (
	"iter"
	"math"
	"slices"
	"testing"

	"hayloft/api"
	"hayloft/wos"
)

// most is the greatest epoch.
const most = uint64(math.MaxUint64)

func name(epoch uint64, number uint32) api.RowId {
	return api.RowId{Epoch: epoch, Number: number}
}

// ver is a version whose row tells its name, so that no two are mixed up.
func ver(epoch uint64, number uint32, deleted uint64) api.Version {
	row := []api.Value{{Kind: api.KindInt, Int: int64(epoch)}, {Kind: api.KindInt, Int: int64(number)}}
	return api.Version{Id: name(epoch, number), Row: row, Deleted: deleted}
}

// deletedAt is v with another Deleted.
func deletedAt(v api.Version, epoch uint64) api.Version {
	v.Deleted = epoch
	return v
}

func alikeOne(a, b api.Version) bool {
	return a.Id == b.Id && a.Deleted == b.Deleted && slices.Equal(a.Row, b.Row)
}

func alike(a, b []api.Version) bool { return slices.EqualFunc(a, b, alikeOne) }

// deep is a copy that shares no memory.
func deep(l []api.Version) []api.Version {
	out := make([]api.Version, len(l))
	for i, v := range l {
		out[i] = v
		out[i].Row = slices.Clone(v.Row)
	}
	return out
}

// spoilRow writes over a row, and the spare room behind it.
func spoilRow(v api.Version) {
	row := v.Row[:cap(v.Row)]
	for i := range row {
		row[i] = api.Value{Kind: api.KindText, Text: "spoilt"}
	}
}

// spoil writes over all of l, its rows, and the spare room of both.
func spoil(l []api.Version) {
	l = l[:cap(l)]
	for i := range l {
		spoilRow(l[i])
		l[i] = ver(77, 77, 78)
	}
}

// holding is a wos with these, added in this order.
func holding(t *testing.T, l ...api.Version) *wos.Wos {
	t.Helper()
	w := wos.New()
	for _, v := range l {
		wantErrno(t, "P10.2: Add", w.Add(v), api.OK)
	}
	return w
}

func wantErrno(t *testing.T, what string, got, want api.Errno) {
	t.Helper()
	if got != want {
		t.Errorf("%s: answers %d, want %d", what, got, want)
	}
}

// wantGiven says that a range gives these, in this order.
func wantGiven(t *testing.T, what string, seq iter.Seq[api.Version], want []api.Version) {
	t.Helper()
	if got := slices.Collect(seq); !alike(got, want) {
		t.Errorf("%s: gives %+v, want %+v", what, got, want)
	}
}

// wantThere says that these are there, by all calls that tell; l is by rising names.
func wantThere(t *testing.T, what string, w *wos.Wos, l ...api.Version) {
	t.Helper()
	if w.Len() != len(l) {
		t.Errorf("%s: Len %d, want %d", what, w.Len(), len(l))
	}
	wantGiven(t, what+": All", w.All(), l)
	epochs := []uint64{0, 1, most - 1, most}
	for _, v := range l {
		if got, ok := w.Get(v.Id); !ok || !alikeOne(got, v) {
			t.Errorf("%s: Get(%v): %+v, %v, want %+v", what, v.Id, got, ok, v)
		}
		epochs = append(epochs, v.Id.Epoch-1, v.Id.Epoch, v.Id.Epoch+1, v.Deleted-1, v.Deleted, v.Deleted+1)
	}
	slices.Sort(epochs)
	for _, epoch := range slices.Compact(epochs) {
		wantGiven(t, what+": At", w.At(epoch), visible(l, epoch))
	}
}

// visible is what there is at an epoch, as the document's words say it.
func visible(l []api.Version, epoch uint64) []api.Version {
	var out []api.Version
	for _, v := range l {
		came, deleted := v.Id.Epoch <= epoch, v.Deleted != 0 && v.Deleted <= epoch
		if came && !deleted {
			out = append(out, deletedAt(v, 0)) // deleted later, if at all: nothing of that is known yet
		}
	}
	return out
}

// wantNone says that there is no version of that name.
func wantNone(t *testing.T, what string, w *wos.Wos, id api.RowId) {
	t.Helper()
	if v, ok := w.Get(id); ok || v.Id != (api.RowId{}) || len(v.Row) != 0 || v.Deleted != 0 {
		t.Errorf("%s: Get(%v): %+v, %v, want none", what, id, v, ok)
	}
}
