package wos_test

import (
	"math"
	"slices"
	"testing"

	"hayloft/api"
	"hayloft/wos"
)

// rising are names in their order.
func rising() []api.RowId {
	return []api.RowId{
		name(0, 0), name(0, 1), name(0, math.MaxUint32),
		name(1, 0), name(1, 5), name(1, math.MaxUint32),
		name(2, 0), name(2, 3),
		name(1<<32, 0), name(1<<32+1, 0),
		name(math.MaxInt64, 9), name(1<<63, 0),
		name(most, 0), name(most, math.MaxInt32), name(most, 1<<31), name(most, math.MaxUint32),
	}
}

func TestLess(t *testing.T) {
	l := rising()
	for i, a := range l {
		for k, b := range l {
			if wos.Less(a, b) != (i < k) {
				t.Errorf("P10.1: Less(%v, %v): %v", a, b, wos.Less(a, b))
			}
		}
	}
}

func TestSeen(t *testing.T) {
	for _, c := range []struct {
		v    api.Version
		at   uint64
		want bool
	}{
		{ver(2, 0, 0), 0, false}, {ver(2, 0, 0), 1, false}, {ver(2, 0, 0), 2, true}, {ver(2, 0, 0), 3, true}, {ver(2, 0, 0), most, true},
		{ver(2, 0, 5), 1, false}, {ver(2, 0, 5), 2, true}, {ver(2, 0, 5), 4, true}, {ver(2, 0, 5), 5, false}, {ver(2, 0, 5), 6, false}, {ver(2, 0, 5), most, false},
		{ver(2, 9, 3), 1, false}, {ver(2, 9, 3), 2, true}, {ver(2, 9, 3), 3, false},
		{ver(0, 0, 0), 0, true}, {ver(0, 0, 1), 0, true}, {ver(0, 0, 1), 1, false},
		{ver(most, 0, 0), most - 1, false}, {ver(most, 0, 0), most, true},
		{ver(1<<63, 0, most), 1<<63 - 1, false}, {ver(1<<63, 0, most), 1 << 63, true}, {ver(1<<63, 0, most), most - 1, true}, {ver(1<<63, 0, most), most, false},
		// one that Add would refuse was deleted by the time at which it came
		{ver(5, 0, 5), 4, false}, {ver(5, 0, 5), 5, false}, {ver(5, 0, 5), 6, false},
		{ver(5, 0, 3), 2, false}, {ver(5, 0, 3), 3, false}, {ver(5, 0, 3), 4, false}, {ver(5, 0, 3), 5, false},
	} {
		if wos.Seen(c.v, c.at) != c.want {
			t.Errorf("P10.1: Seen(%v deleted at %d, %d): want %v", c.v.Id, c.v.Deleted, c.at, c.want)
		}
	}
}

func TestAs(t *testing.T) {
	for _, c := range []struct {
		v       api.Version
		at      uint64
		deleted uint64
	}{
		{ver(2, 1, 0), 0, 0}, {ver(2, 1, 0), 2, 0}, {ver(2, 1, 0), most, 0},
		{ver(2, 1, 5), 0, 0}, {ver(2, 1, 5), 1, 0}, {ver(2, 1, 5), 2, 0}, {ver(2, 1, 5), 4, 0},
		{ver(2, 1, 5), 5, 5}, {ver(2, 1, 5), 6, 5}, {ver(2, 1, 5), most, 5},
		{ver(2, 1, most), most - 1, 0}, {ver(2, 1, most), most, most},
		{ver(9, 1, 1), 0, 0}, {ver(9, 1, 1), 1, 1}, // one that Add would refuse
		{ver(9, 1, 1<<63), 1<<63 - 1, 0}, {ver(9, 1, 1<<63), 1 << 63, 1 << 63},
	} {
		want := deletedAt(c.v, c.deleted)
		if got := wos.As(c.v, c.at); !alikeOne(got, want) {
			t.Errorf("P10.1: As(%+v, %d): %+v, want %+v", c.v, c.at, got, want)
		}
	}
}

// R5: what As answers is new, and what it is handed stays.
func TestAsMemory(t *testing.T) {
	for _, at := range []uint64{1, 3, 9} {
		room := append(ver(1, 2, 0).Row, ver(3, 4, 0).Row...)
		v := api.Version{Id: name(1, 2), Row: room[:2], Deleted: 3}
		first, second := wos.As(v, at), wos.As(v, at)
		spoilRow(first)
		if v.Deleted != 3 || !slices.Equal(room, append(ver(1, 2, 0).Row, ver(3, 4, 0).Row...)) {
			t.Errorf("R5: As at %d changed what it was handed: %+v, %+v", at, v, room)
		}
		spoilRow(v)
		if !slices.Equal(second.Row, ver(1, 2, 0).Row) {
			t.Errorf("R5: As at %d shares memory: %+v", at, second)
		}
	}
}

// Whatever a row has is told as it is.
func TestAnyRow(t *testing.T) {
	for i, row := range anyRows() {
		v := api.Version{Id: name(3, uint32(i)), Row: row, Deleted: 4}
		if got := wos.As(v, 4); !alikeOne(got, v) {
			t.Errorf("P10.1: As: %+v, want %+v", got, v)
		}
		wantThere(t, "P10.2: whatever its Row has", holding(t, v), v)
	}
}

// anyRows are rows, right or not.
func anyRows() [][]api.Value {
	return [][]api.Value{
		nil,
		{},
		{{}},
		{{Kind: 9, Bool: true, Int: -1, Text: "x"}},
		{{Kind: math.MinInt}, {Kind: api.KindText, Text: string(make([]byte, 1000))}},
		make([]api.Value, 1000),
	}
}
