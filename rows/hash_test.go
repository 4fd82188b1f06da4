package rows_test

import (
	"hash/fnv"
	"math"
	"math/rand/v2"
	"testing"

	"hayloft/api"
	"hayloft/rows"
	"hayloft/value"
)

// hashOf is the hash of bytes: the document's is the one known as FNV-1a.
func hashOf(b []byte) uint64 {
	h := fnv.New64a()
	h.Write(b)
	return h.Sum64()
}

func TestHash(t *testing.T) {
	for _, k := range written {
		if h, want := rows.Hash(k.v), hashOf(unhex(t, k.bytes)); h != want {
			t.Errorf("P3.3: Hash(%+v): %d, want %d", k.v, h, want)
		}
	}
	for _, v := range wrongs() {
		if h := rows.Hash(v); h != 0 {
			t.Errorf("P3.3: Hash(%+v): %d", v, h)
		}
	}
}

// A number that was worked out by hand holds the test's own hash too.
func TestHashOfNull(t *testing.T) {
	start := uint64(14695981039346656037)
	if h := rows.Hash(value.Null()); h != start*1099511628211 {
		t.Errorf("P3.3: Hash of a null: %d", h)
	}
	bool1 := (start ^ 1) * 1099511628211
	if h := rows.Hash(value.Bool(true)); h != (bool1^1)*1099511628211 {
		t.Errorf("P3.3: Hash of true: %d", h)
	}
}

func TestSegment(t *testing.T) {
	for _, many := range []int{1, 2, 3, 7, 8, 100, 1 << 31, 1<<32 + 1, 1 << 62, math.MaxInt} {
		for _, k := range written {
			want := hashOf(unhex(t, k.bytes)) % uint64(many)
			if n := rows.Segment(k.v, many); n < 0 || uint64(n) != want {
				t.Errorf("P3.3: Segment(%+v, %d): %d, want %d", k.v, many, n, want)
			}
		}
		for _, v := range wrongs() {
			if n := rows.Segment(v, many); n != 0 {
				t.Errorf("P3.3: Segment(%+v, %d): %d", v, many, n)
			}
		}
	}
}

func TestSegmentOfNone(t *testing.T) {
	for _, many := range []int{0, -1, -2, -8, -1 << 32, math.MinInt + 1, math.MinInt} {
		for _, k := range written {
			if n := rows.Segment(k.v, many); n != 0 {
				t.Errorf("P3.3: Segment(%+v, %d): %d", k.v, many, n)
			}
		}
		for _, v := range wrongs() {
			if n := rows.Segment(v, many); n != 0 {
				t.Errorf("P3.3: Segment(%+v, %d): %d", v, many, n)
			}
		}
	}
}

func TestHashOfMany(t *testing.T) {
	r := rand.New(rand.NewPCG(3, 3))
	for range 20000 {
		v := aValue(r)
		b, e := rows.Encode(row(v))
		if e != api.OK || rows.Hash(v) != hashOf(b[1:]) {
			t.Fatalf("P3.3: %+v: %d", v, e)
		}
	}
}
