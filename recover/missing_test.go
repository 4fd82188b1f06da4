package recover_test

import (
	"math"
	"math/rand/v2"
	"slices"
	"testing"

	"hayloft/api"
	"hayloft/recover"
)

func seg(proj, number int) api.Segment { return api.Segment{Proj: proj, Seg: number} }

func segs(l ...api.Segment) []api.Segment { return l }

// held are these segments, with no version.
func held(l ...api.Segment) []api.Held {
	var out []api.Held
	for _, at := range l {
		out = append(out, api.Held{At: at})
	}
	return out
}

func wantMissing(t *testing.T, why string, want []api.Segment, have []api.Held, missing ...api.Segment) {
	t.Helper()
	if got := recover.Missing(want, have); !slices.Equal(got, missing) {
		t.Errorf("P18.4: %s: Missing(%v, %v): %v, want %v", why, want, have, got, missing)
	}
}

func TestMissing(t *testing.T) {
	a, b, c := seg(1, 0), seg(0, 1), seg(1, 1)
	wantMissing(t, "nothing", nil, nil)
	wantMissing(t, "nothing", segs(), held())
	wantMissing(t, "none is wanted", nil, held(a, b))
	wantMissing(t, "none is held", segs(a, b, c), nil, a, b, c)
	wantMissing(t, "none is held", segs(c, b, a), []api.Held{}, c, b, a)
	wantMissing(t, "the first", segs(a, b, c), held(c, b), a)
	wantMissing(t, "the middle", segs(a, b, c), held(c, a), b)
	wantMissing(t, "the last", segs(a, b, c), held(b, a), c)
	wantMissing(t, "in their order", segs(c, a, b), held(a), c, b)
	wantMissing(t, "all are held", segs(a, b, c), held(c, b, a))
	wantMissing(t, "held twice, and others", segs(a, b), held(b, c, b, seg(7, 7), b), a)
	wantMissing(t, "wanted twice", segs(b, a, b, a, b), held(a), b, b, b)
	wantMissing(t, "both numbers are asked", segs(a, b, c), held(seg(0, 0), seg(2, 0), seg(1, 2), seg(0, 2)), a, b, c)
}

// A segment is held, whatever there is in it; a segment may have any numbers.
func TestMissingAny(t *testing.T) {
	full := api.Held{At: seg(0, 1), Versions: rising()}
	wantMissing(t, "with versions", segs(seg(0, 0), seg(0, 1)), []api.Held{full}, seg(0, 0))
	odd := segs(seg(-1, 0), seg(0, -1), seg(math.MinInt, math.MaxInt), seg(math.MaxInt, math.MinInt), seg(1<<32, 0), seg(0, 1<<32))
	wantMissing(t, "odd ones", odd, nil, odd...)
	wantMissing(t, "odd ones", odd, held(odd...))
	for i, at := range odd {
		wantMissing(t, "one is held", odd, held(at), slices.Concat(odd[:i], odd[i+1:])...)
		wantMissing(t, "one is not held", odd, held(slices.Concat(odd[:i], odd[i+1:])...), at)
	}
}

func TestMissingModel(t *testing.T) {
	r := rand.New(rand.NewPCG(18, 7))
	for range 2000 {
		var want []api.Segment
		var have []api.Held
		for range r.IntN(12) {
			want = append(want, seg(r.IntN(4), r.IntN(3)))
		}
		for range r.IntN(9) {
			have = append(have, api.Held{At: seg(r.IntN(4), r.IntN(3)), Versions: some(r, r.IntN(2), true)})
		}
		missing := slices.DeleteFunc(slices.Clone(want), func(at api.Segment) bool {
			return slices.ContainsFunc(have, func(h api.Held) bool { return h.At == at })
		})
		wantMissing(t, "any segments", want, have, missing...)
	}
}
