package recover_test

import (
	"math"
	"math/rand/v2"
	"slices"
	"testing"

	"hayloft/api"
	"hayloft/recover"
)

// rising are versions by rising names, of the edges of epochs and numbers.
func rising() []api.Version {
	return list(
		ver(0, 0, 0), ver(0, 1, 0), ver(0, math.MaxUint32, 0),
		ver(1, 0, 0), ver(1, 5, 0), ver(1, math.MaxInt32, 0), ver(1, 1<<31, 0), ver(1, math.MaxUint32, 0),
		ver(2, 0, 0), ver(2, 3, 0),
		ver(1<<32, 0, 0), ver(1<<32+1, 0, 0),
		ver(math.MaxInt64, 9, 0), ver(1<<63, 0, 0),
		ver(most-1, 7, 0), ver(most, 0, 0), ver(most, math.MaxUint32, 0),
	)
}

func TestUptoNothing(t *testing.T) {
	for _, epoch := range []uint64{0, 1, most} {
		wantVersions(t, "P18.1: Upto of none", recover.Upto(nil, epoch), nil)
		wantVersions(t, "P18.1: Upto of an empty list", recover.Upto(list(), epoch), nil)
	}
}

// They are told by rising names, in whatever order they are handed in.
func TestUptoOrder(t *testing.T) {
	r := rand.New(rand.NewPCG(18, 1))
	turned := rising()
	slices.Reverse(turned)
	wantVersions(t, "P18.1: Upto of what rises", recover.Upto(rising(), most), rising())
	wantVersions(t, "P18.1: Upto of what falls", recover.Upto(turned, most), rising())
	for range 200 {
		l := shuffled(r, turned)
		wantVersions(t, "P18.1: Upto of what has no order", recover.Upto(l, most), rising())
	}
}

// It is the name's Epoch that is asked: at most epoch.
func TestUptoEpoch(t *testing.T) {
	l := rising()
	for _, v := range l {
		for _, epoch := range []uint64{v.Id.Epoch - 1, v.Id.Epoch, v.Id.Epoch + 1} {
			var want []api.Version
			for _, x := range l {
				if x.Id.Epoch <= epoch {
					want = append(want, x)
				}
			}
			wantVersions(t, "P18.1: Upto", recover.Upto(l, epoch), want)
		}
	}
	wantVersions(t, "P18.1: Upto of what came later", recover.Upto(list(ver(3, 0, 0), ver(2, 9, 5)), 1), nil)
}

// What was deleted by then is told, and when; of what was deleted later nothing is known yet.
func TestUptoDeleted(t *testing.T) {
	for _, c := range []struct {
		v       api.Version
		at      uint64
		deleted uint64
	}{
		{ver(2, 1, 0), 2, 0}, {ver(2, 1, 0), most, 0},
		{ver(2, 1, 3), 2, 0}, {ver(2, 1, 3), 3, 3}, {ver(2, 1, 3), 4, 3}, {ver(2, 1, 3), most, 3},
		{ver(2, 1, 5), 3, 0}, {ver(2, 1, 5), 4, 0}, {ver(2, 1, 5), 5, 5}, {ver(2, 1, 5), 6, 5},
		{ver(0, 0, 1), 0, 0}, {ver(0, 0, 1), 1, 1},
		{ver(2, 1, 1<<63), 1<<63 - 1, 0}, {ver(2, 1, 1<<63), 1 << 63, 1 << 63}, {ver(2, 1, 1<<63), most, 1 << 63},
		{ver(2, 1, most), most - 1, 0}, {ver(2, 1, most), most, most},
		// one that was deleted by the time at which it came
		{ver(5, 1, 5), 5, 5}, {ver(5, 1, 5), 6, 5}, {ver(5, 1, 3), 5, 3}, {ver(5, 1, 3), most, 3},
	} {
		wantVersions(t, "P18.1: Upto", recover.Upto(list(c.v), c.at), list(deletedAt(c.v, c.deleted)))
	}
	wantVersions(t, "P18.1: Upto of one that is not there yet", recover.Upto(list(ver(5, 1, 3)), 4), nil)
}

// Of several of one name the first one counts, whatever it is.
func TestUptoFirst(t *testing.T) {
	none, early, late := marked(1, 0, 0, 1), marked(1, 0, 3, 2), marked(1, 0, 9, 3)
	other := ver(1, 1, 0)
	wantVersions(t, "P18.1: of one name", recover.Upto(list(none, early, late), 5), list(none))
	wantVersions(t, "P18.1: of one name", recover.Upto(list(early, none, late), 5), list(early))
	wantVersions(t, "P18.1: of one name", recover.Upto(list(late, early, none), 5), list(deletedAt(late, 0)))
	wantVersions(t, "P18.1: of one name", recover.Upto(list(late, early, none), 9), list(late))
	wantVersions(t, "P18.1: of one name, apart", recover.Upto(list(late, other, early, other, none), 9), list(late, other))
	wantVersions(t, "P18.1: of one name, in other order", recover.Upto(list(other, none, ver(0, 0, 0), early), 9), list(ver(0, 0, 0), none, other))

	var l, want []api.Version
	for i := range int64(2000) { // so many that an order which is not kept would be seen
		l = append(l, marked(uint64(i*7%10), uint32(i%3), 0, i))
	}
	for _, id := range namesOf(l) {
		v, _ := firstOf(l, id)
		want = append(want, v)
	}
	wantVersions(t, "P18.1: of one name, very often", recover.Upto(l, most), want)
}

// Whatever a row has is told as it is.
func TestAnyRow(t *testing.T) {
	for i, row := range [][]api.Value{
		nil,
		{},
		{{}},
		{{Kind: 9, Bool: true, Int: -1, Text: "x"}},
		{{Kind: math.MinInt}, {Kind: api.KindText, Text: string(make([]byte, 1000))}},
		make([]api.Value, 1000),
	} {
		v := api.Version{Id: name(3, uint32(i)), Row: row, Deleted: 4}
		wantVersions(t, "P18.1: Upto: any row", recover.Upto(list(v), 4), list(v))
		wantVersions(t, "P18.2: Changes: any row", recover.Changes(list(v), 2, 4), list(v))
		wantVersions(t, "P18.3: Merged: any row", recover.Merged(list(v), nil), list(v))
		wantVersions(t, "P18.3: Merged: any row", recover.Merged(nil, list(v)), list(v))
		wantVersions(t, "P18.3: Merged: any row", recover.Merged(list(deletedAt(v, 0)), list(api.Version{Id: v.Id, Deleted: 4})), list(v))
	}
}

func TestUptoModel(t *testing.T) {
	r := rand.New(rand.NewPCG(18, 2))
	for range 3000 {
		l, epoch := some(r, r.IntN(40), true), anEpoch(r)
		wantVersions(t, "P18.1: Upto", recover.Upto(l, epoch), upto(l, epoch))
		wantVersions(t, "R6: Upto once more", recover.Upto(l, epoch), upto(l, epoch))
	}
}
