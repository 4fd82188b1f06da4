package encode_test

import (
	"math"
	"math/rand/v2"
	"slices"
	"testing"

	"hayloft/api"
	"hayloft/encode"
	"hayloft/value"
)

func TestBest(t *testing.T) {
	for i, k := range []struct {
		l    []api.Value
		want int
	}{
		{nil, api.EncPlain}, // no byte in any kind
		{list(value.Null()), api.EncPlain},
		{list(value.Null(), value.Null()), api.EncPlain}, // 2 bytes in three kinds
		{make([]api.Value, 3), api.EncRuns},              // 2 bytes, as has the dictionary
		{make([]api.Value, api.MaxBlock), api.EncRuns},
		{ints(5), api.EncDelta}, // 8 bytes
		{ints(5, 6), api.EncDelta},
		{ints(5, 5), api.EncDelta}, // 9 bytes, as have the bits
		{ints(5, 5, 5), api.EncBits},
		{rising(1000, api.MaxBlock), api.EncBits},
		{ints(0, 1<<40, 1<<41, 1<<42), api.EncDelta},
		{slices.Repeat(ints(0, math.MinInt64), 30), api.EncDict},
		{append(slices.Repeat(ints(0), 32), slices.Repeat(ints(math.MinInt64), 32)...), api.EncRuns},
		{slices.Repeat(texts("ab", "cd"), 20), api.EncDict},
		{append(slices.Repeat(texts("ab"), 20), texts("cd")...), api.EncRuns},
		{texts("a", "b", "c"), api.EncPlain},
		{ints(math.MinInt64, math.MaxInt64, 0), api.EncDelta},
	} {
		if got := encode.Best(k.l); got != k.want {
			t.Errorf("P6.3: case %d: %d, want %d", i, got, k.want)
		}
	}
}

func TestBestOfWrong(t *testing.T) {
	for _, v := range wrongs() {
		if k := encode.Best(list(value.Int(1), v)); k != api.EncPlain {
			t.Errorf("P6.3: %+v: %d", v, k)
		}
	}
	for _, n := range []int{65, 1000} {
		if k := encode.Best(rising(0, n)); k != api.EncPlain {
			t.Errorf("P6.3: %d values: %d", n, k)
		}
	}
}

// No kind takes fewer bytes than the best one, and none with a smaller number as few.
func TestBestOfMany(t *testing.T) {
	r := rand.New(rand.NewPCG(6, 3))
	seen := map[int]int{}
	for range 5000 {
		l := aList(r, 64>>r.IntN(6), r.IntN(2) == 0)
		best := encode.Best(l)
		seen[best]++
		b, e := encode.Encode(best, l)
		if e != api.OK {
			t.Fatalf("P6.3: %+v: %d, %d", l, best, e)
		}
		for _, kind := range kinds {
			c, e := encode.Encode(kind, l)
			if encode.Can(kind, l) != (e == api.OK) {
				t.Fatalf("P6.3: Can(%d, %+v)", kind, l)
			}
			if e == api.OK && (len(c) < len(b) || len(c) == len(b) && kind < best) {
				t.Fatalf("P6.3: %+v: %d, but %d has %d bytes", l, best, kind, len(c))
			}
		}
	}
	for _, kind := range kinds {
		if seen[kind] == 0 {
			t.Error("never the best:", kind)
		}
	}
}

func TestGatherRuns(t *testing.T) {
	one, two := value.Int(1), value.Int(2)
	for i, k := range []struct {
		l    []api.Value
		want []encode.Run
	}{
		{nil, nil},
		{[]api.Value{}, nil},
		{list(one), []encode.Run{{1, one}}},
		{list(one, one), []encode.Run{{2, one}}},
		{list(one, two), []encode.Run{{1, one}, {1, two}}},
		{list(one, one, two), []encode.Run{{2, one}, {1, two}}},
		{list(one, two, two, one, one, one), []encode.Run{{1, one}, {2, two}, {3, one}}},
		{list(value.Null(), value.Bool(false), value.Int(0), value.Text("")), []encode.Run{{1, value.Null()}, {1, value.Bool(false)}, {1, value.Int(0)}, {1, value.Text("")}}},
		// All fields are asked, and values that are not right are gathered too.
		{list(api.Value{Int: 1}, api.Value{Int: 2}, api.Value{Int: 2}), []encode.Run{{1, api.Value{Int: 1}}, {2, api.Value{Int: 2}}}},
		{list(api.Value{}, api.Value{Bool: true}, api.Value{Text: "a"}), []encode.Run{{1, api.Value{}}, {1, api.Value{Bool: true}}, {1, api.Value{Text: "a"}}}},
		{list(api.Value{Kind: 9}, api.Value{Kind: 9}, api.Value{Kind: 8}), []encode.Run{{2, api.Value{Kind: 9}}, {1, api.Value{Kind: 8}}}},
		{slices.Repeat(texts(long(100)), 1000), []encode.Run{{1000, value.Text(long(100))}}}, // of any number
	} {
		if got := encode.Runs(k.l); !slices.Equal(got, k.want) {
			t.Errorf("P6.4: case %d: %+v, want %+v", i, got, k.want)
		}
	}
}

// Runs, laid out, are the values; each has one at least, and the next one is another value's.
func TestGatherRunsOfMany(t *testing.T) {
	r := rand.New(rand.NewPCG(6, 4))
	for range 5000 {
		l := aList(r, 200, r.IntN(2) == 0)
		var back []api.Value
		runs := encode.Runs(l)
		for i, run := range runs {
			if run.Many < 1 || i > 0 && runs[i-1].Value == run.Value {
				t.Fatalf("P6.4: %+v: %+v", l, runs)
			}
			back = append(back, slices.Repeat(list(run.Value), run.Many)...)
		}
		if !slices.Equal(back, l) {
			t.Fatalf("P6.4: %+v: %+v", l, runs)
		}
	}
}
