package value_test

import (
	"cmp"
	"math/rand/v2"
	"slices"
	"testing"

	"hayloft/api"
	"hayloft/value"
)

func TestCompare(t *testing.T) {
	l := values()
	for i, a := range l {
		for k, b := range l {
			if c := value.Compare(a, b); c != cmp.Compare(i, k) {
				t.Errorf("P2.3: %+v and %+v: %d", a, b, c)
			}
		}
	}
}

// What is not right is ordered too: by the Kind, and by the field that it names alone.
func TestCompareWrongs(t *testing.T) {
	for _, k := range []struct {
		a, b api.Value
		want int
	}{
		{api.Value{Int: 1}, api.Value{Int: 2}, 0},
		{api.Value{Text: "a", Bool: true}, api.Value{}, 0},
		{api.Value{Kind: 9, Int: 1}, api.Value{Kind: 9, Int: 2}, 0},
		{api.Value{Kind: 4, Text: "b"}, api.Value{Kind: 4, Text: "a", Bool: true}, 0},
		{api.Value{Kind: -1, Int: 1}, api.Value{Kind: -1}, 0},
		{api.Value{Kind: -1}, api.Value{}, -1},
		{api.Value{Kind: 4}, api.Value{Kind: 3, Text: "z"}, 1},
		{api.Value{Kind: 4}, api.Value{Kind: 9}, -1},
		{api.Value{Kind: -1 << 63}, api.Value{Kind: 1<<63 - 1}, -1},
		{api.Value{Kind: 1<<63 - 1}, api.Value{Kind: -1 << 63}, 1},
		{api.Value{Kind: 1, Int: 5}, api.Value{Kind: 1, Int: 6, Text: "a"}, 0},
		{api.Value{Kind: 1, Int: 5}, api.Value{Kind: 1, Int: 4, Bool: true}, -1},
		{api.Value{Kind: 2, Int: 5, Bool: true}, api.Value{Kind: 2, Int: 5, Text: "a"}, 0},
		{api.Value{Kind: 2, Int: 5, Text: "a"}, api.Value{Kind: 2, Int: 4, Text: "b"}, 1},
		{api.Value{Kind: 3, Text: "a", Int: 2}, api.Value{Kind: 3, Text: "a", Int: 1}, 0},
		{value.Text(long(65)), value.Text(long(66)), -1},
	} {
		if c := value.Compare(k.a, k.b); c != k.want {
			t.Errorf("P2.3: %+v and %+v: %d", k.a, k.b, c)
		}
		if c := value.Compare(k.b, k.a); c != -k.want {
			t.Errorf("P2.3: %+v and %+v: %d", k.b, k.a, c)
		}
	}
}

func TestRows(t *testing.T) {
	one, two, text := value.Int(1), value.Int(2), value.Text("a")
	for _, k := range []struct {
		a, b []api.Value
		want int
	}{
		{nil, nil, 0},
		{nil, []api.Value{}, 0},
		{nil, []api.Value{value.Null()}, -1},
		{[]api.Value{one}, []api.Value{one}, 0},
		{[]api.Value{one}, []api.Value{two}, -1},
		{[]api.Value{one}, []api.Value{one, value.Null()}, -1},
		{[]api.Value{two}, []api.Value{one, text, text}, 1}, // the first that differ, not the lengths
		{[]api.Value{one, text, one}, []api.Value{one, text, two}, -1},
		{[]api.Value{one, two, one}, []api.Value{one, one, two}, 1},
		{[]api.Value{one, text}, []api.Value{one, two}, 1},
		{[]api.Value{{Int: 1}, one}, []api.Value{{Int: 2}, one}, 0}, // alike, though not the same
		{[]api.Value{{Kind: 9, Int: 1}, one}, []api.Value{{Kind: 9}, two}, -1},
		{make([]api.Value, 20), make([]api.Value, 1000), -1},
	} {
		if c := value.Rows(k.a, k.b); c != k.want {
			t.Errorf("P2.3: %+v and %+v: %d", k.a, k.b, c)
		}
		if c := value.Rows(k.b, k.a); c != -k.want {
			t.Errorf("P2.3: %+v and %+v: %d", k.b, k.a, c)
		}
	}
}

// What is spare behind a row's end is no part of it.
func TestRowsSpare(t *testing.T) {
	l := []api.Value{value.Int(1), value.Int(2)}
	m := []api.Value{value.Int(1), value.Int(3)}
	if value.Rows(l[:1], m[:1]) != 0 || value.Rows(l[:1], m) != -1 || value.Rows(l, m[:1]) != 1 {
		t.Error("P2.3: what is spare")
	}
	if l[1] != value.Int(2) || m[1] != value.Int(3) {
		t.Error("R5: an argument was changed")
	}
}

func TestTotalOrder(t *testing.T) {
	l := values()
	for _, a := range l {
		for _, b := range l {
			c := value.Compare(a, b)
			if (c == 0) != (a == b) || c != -value.Compare(b, a) {
				t.Errorf("P2.6: %+v and %+v: %d", a, b, c)
			}
			for _, x := range l {
				if c <= 0 && value.Compare(b, x) <= 0 && value.Compare(a, x) > 0 {
					t.Errorf("P2.6: %+v, %+v, %+v", a, b, x)
				}
			}
		}
	}
}

// aRow is a short row of few values, so that many of them are alike.
func aRow(r *rand.Rand) []api.Value {
	few := []api.Value{value.Null(), value.Bool(false), value.Bool(true), value.Int(-1), value.Int(0), value.Text(""), value.Text("a")}
	row := make([]api.Value, r.IntN(4))
	for i := range row {
		row[i] = few[r.IntN(len(few))]
	}
	return row
}

func TestTotalOrderOfRows(t *testing.T) {
	r := rand.New(rand.NewPCG(2, 6))
	for range 50000 {
		a, b, x := aRow(r), aRow(r), aRow(r)
		c := value.Rows(a, b)
		if (c == 0) != slices.Equal(a, b) || c != -value.Rows(b, a) || c < -1 || c > 1 {
			t.Fatalf("P2.6: %+v and %+v: %d", a, b, c)
		}
		if c <= 0 && value.Rows(b, x) <= 0 && value.Rows(a, x) > 0 {
			t.Fatalf("P2.6: %+v, %+v, %+v", a, b, x)
		}
	}
}
