package rosfile_test

import (
	"bytes"
	"math/rand/v2"
	"slices"
	"testing"

	"hayloft/api"
	"hayloft/rosfile"
	"hayloft/value"
)

// All of Read of Write is Sorted, in whichever kinds.
func TestThereAndBack(t *testing.T) {
	r := rand.New(rand.NewPCG(8, 14))
	for range 400 {
		columns := 1 + r.IntN(api.MaxColumns)
		sort := aSort(r, columns)
		l := versionsOf(r, columns, r.IntN(300)>>r.IntN(8))
		want := rosfile.Sorted(sort, l)
		for range 4 {
			k := make([]int, r.IntN(columns+4))
			for i := range k {
				k[i] = r.IntN(7) - 1
			}
			wantFile(t, read(t, write(t, columns, sort, k, l)), columns, sort, want)
		}
	}
}

// In whatever order versions are handed in, the container is the same.
func TestOrderIsNotSeen(t *testing.T) {
	r := rand.New(rand.NewPCG(8, 15))
	l := versionsOf(r, 3, 200)
	want := write(t, 3, []int{2, 0}, nil, l)
	for range 20 {
		r.Shuffle(len(l), func(i, k int) { l[i], l[k] = l[k], l[i] })
		if got := write(t, 3, []int{2, 0}, nil, l); !bytes.Equal(got, want) {
			t.Fatal("P8.2: the order is seen")
		}
	}
}

// A bit that is turned anywhere.
func TestBitTurned(t *testing.T) {
	r := rand.New(rand.NewPCG(8, 16))
	for _, n := range []int{0, 1, 4, 66} {
		b := write(t, 2, []int{1}, nil, versionsOf(r, 2, n))
		for i := range 8 * len(b) {
			b[i/8] ^= 1 << (i % 8)
			if f, e := rosfile.Read(b); e != api.ErrFileForm || f != nil {
				t.Fatalf("P8.5: bit %d of %d bytes: %d", i, len(b), e)
			}
			b[i/8] ^= 1 << (i % 8)
		}
		read(t, b)
	}
}

// wantTakenRightly wants that b is refused, or else read as versions that Write takes, and so sorted. It tells which.
func wantTakenRightly(t *testing.T, b []byte) bool {
	t.Helper()
	f, e := rosfile.Read(b)
	if e != api.OK {
		if e != api.ErrFileForm || f != nil {
			t.Fatalf("P8.3: Read(%.400x): %d", b, e)
		}
		return false
	}
	l := slices.Collect(f.All())
	again, e := rosfile.Write(f.Columns(), f.Sort(), nil, l)
	if e != api.OK || !alike(l, ordered(f.Sort(), l)) {
		t.Fatalf("P8.3: Read(%.400x): %+v, that Write does not take: %d", b, l, e)
	}
	wantFile(t, f, f.Columns(), f.Sort(), l)
	wantFile(t, read(t, again), f.Columns(), f.Sort(), l)
	return true
}

// reseal mends the sums of a container's blocks (each column has one at most), and its own.
func reseal(b []byte, at int) []byte {
	b = slices.Clone(b)
	for end := len(b) - 4; at+4 <= end; {
		size := int(b[at])<<24 + int(b[at+1])<<16 + int(b[at+2])<<8 + int(b[at+3])
		at += 4
		if size < 4 || size > end-at {
			continue
		}
		copy(b[at:], seal(b[at:at+size-4]))
		at += size
	}
	return seal(b[:len(b)-4])
}

// Containers but for a few bytes, with all sums mended.
func TestSpoiltBytes(t *testing.T) {
	r := rand.New(rand.NewPCG(8, 17))
	taken, refused := 0, 0
	for range 20000 {
		columns := 1 + r.IntN(2)
		sort := aSort(r, columns)
		k := []int{r.IntN(5), r.IntN(5)}
		b := write(t, columns, sort, k, versionsOf(r, columns, r.IntN(5)))
		for range 1 + r.IntN(2) {
			b[r.IntN(len(b)-4)] ^= byte(1+r.IntN(255)) >> r.IntN(8)
		}
		if wantTakenRightly(t, reseal(b, 4+1+1+len(sort)+4)) {
			taken++
		} else {
			refused++
		}
	}
	if taken < 100 || refused < 100 {
		t.Error("taken:", taken, "refused:", refused)
	}
}

// Whatever the bytes are, Read ends.
func TestAnyBytes(t *testing.T) {
	r := rand.New(rand.NewPCG(8, 18))
	taken := 0
	for range 50000 {
		b := make([]byte, r.IntN(200)>>r.IntN(5))
		for i := range b {
			b[i] = byte(r.Uint32()) >> r.IntN(8)
		}
		if len(b) > 10 && r.IntN(2) == 0 {
			clear(b[r.IntN(11):])
			copy(b, []byte{'H', 'A', 'Y', '1', byte(r.IntN(4)), byte(r.IntN(3)), byte(r.IntN(3)), byte(r.IntN(3))})
		}
		wantTakenRightly(t, b)
		if wantTakenRightly(t, seal(b)) {
			taken++
		}
	}
	if taken == 0 {
		t.Error("none was taken")
	}
}

// Columns of any values, in place of a container's: taken, if and only if Write takes such versions, and they are in order.
func TestAnyColumns(t *testing.T) {
	r := rand.New(rand.NewPCG(8, 19))
	var answers [2]int
	for range 20000 {
		var l []api.Version
		for range 1 + r.IntN(3) {
			l = append(l, gone(uint64(r.IntN(4)*r.IntN(2)), uint64(r.IntN(4)), uint32(r.IntN(2)), value.Int(int64(r.IntN(2)))))
		}
		sort := aSort(r, 1)
		_, e := rosfile.Write(1, sort, nil, l)
		right := e == api.OK && alike(l, ordered(sort, l))
		b := lay("HAY1", 1, sort, len(l), blocksOf(t, 1, l)...)
		if wantTakenRightly(t, b) != right {
			t.Fatalf("P8.3: %+v, sorted by %v: right is %v", l, sort, right)
		}
		if right {
			answers[1]++
		} else {
			answers[0]++
		}
	}
	if answers[0] < 100 || answers[1] < 100 {
		t.Error("refused, taken:", answers)
	}
}
