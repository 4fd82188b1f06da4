package block_test

import (
	"math/rand/v2"
	"slices"
	"testing"

	"hayloft/api"
	"hayloft/block"
	"hayloft/encode"
	"hayloft/value"
)

// three are three blocks, and the values that they have.
func three(t *testing.T) ([][]byte, []api.Value) {
	t.Helper()
	a, b, c := ints(4, 4, 9), list(value.Null()), texts("x", "", "yz")
	return [][]byte{write(t, api.EncRuns, a), write(t, api.EncDict, b), write(t, -1, c)}, slices.Concat(a, b, c)
}

func TestAll(t *testing.T) {
	blocks, l := three(t)
	if got := gather(t, slices.Concat(blocks...)); !slices.Equal(got, l) {
		t.Errorf("P7.4: %+v, want %+v", got, l)
	}
	if got := gather(t, blocks[0]); !slices.Equal(got, l[:3]) {
		t.Errorf("P7.4: one block: %+v", got)
	}
	for _, b := range [][]byte{nil, {}} {
		if got := gather(t, b); len(got) > 0 {
			t.Errorf("P7.4: no block: %+v", got)
		}
	}
}

// It ends ahead of what is no block, whatever comes behind that.
func TestAllEnds(t *testing.T) {
	blocks, l := three(t)
	for _, behind := range []string{"\x00", "HAY1", long(300), string(blocks[0][:len(blocks[0])-1]), "\x00" + string(blocks[0])} {
		if got := gather(t, append(slices.Concat(blocks...), behind...)); !slices.Equal(got, l) {
			t.Errorf("P7.4: with %x behind: %+v", behind, got)
		}
	}
	upTo := []int{0, 3, 4}
	for i, n := range upTo {
		wrongs := map[string][]byte{
			"a bit turned in the sum":      slices.Clone(blocks[i]),
			"no kind":                      slices.Clone(blocks[i]),
			"a null too many, sum right":   slices.Clone(blocks[i][:len(blocks[i])-4]),
			"an encoding that is nobody's": lay(api.EncPlain, 1, 1, []byte{0}, []byte{0}, []byte{9}),
		}
		wrongs["a bit turned in the sum"][len(blocks[i])-1] ^= 1
		wrongs["no kind"][0] = 5
		wrongs["a null too many, sum right"][2]++
		wrongs["a null too many, sum right"] = seal(wrongs["a null too many, sum right"])
		for why, wrong := range wrongs {
			parts := slices.Clone(blocks)
			parts[i] = wrong
			if got := gather(t, slices.Concat(parts...)); !slices.Equal(got, l[:n]) {
				t.Errorf("P7.4: %s in block %d: %+v, want %+v", why, i, got, l[:n])
			}
		}
	}
}

func TestAllCut(t *testing.T) {
	blocks, l := three(t)
	b := slices.Concat(blocks...)
	for n := range b {
		want := 0
		switch {
		case n >= len(blocks[0])+len(blocks[1]):
			want = 4
		case n >= len(blocks[0]):
			want = 3
		}
		if got := gather(t, b[:n]); !slices.Equal(got, l[:want]) {
			t.Errorf("P7.4: %d bytes: %+v, want %+v", n, got, l[:want])
		}
	}
}

func TestAllIsLeft(t *testing.T) {
	blocks, l := three(t)
	seq := block.All(slices.Concat(blocks...))
	for often := range len(l) + 1 {
		var got []api.Value
		for i, v := range seq {
			if i == often {
				break
			}
			got = append(got, v)
		}
		if !slices.Equal(got, l[:often]) {
			t.Errorf("R11: left behind %d: %+v", often, got)
		}
	}
}

func TestAllGoneOverAgain(t *testing.T) {
	blocks, l := three(t)
	seq := block.All(slices.Concat(blocks...))
	for range 3 {
		at := 0
		for i, v := range seq {
			if i != at || v != l[at] {
				t.Errorf("R11: %d, %+v, want %d, %+v", i, v, at, l[at])
			}
			inner := 0
			for k, w := range seq { // one range within another
				if k != inner || w != l[inner] {
					t.Errorf("R11: within: %d, %+v", k, w)
				}
				inner++
			}
			if inner != len(l) {
				t.Error("R11: within:", inner)
			}
			at++
		}
		if at != len(l) {
			t.Error("R11:", at)
		}
	}
}

func TestAllOfMany(t *testing.T) {
	r := rand.New(rand.NewPCG(7, 4))
	for range 200 {
		var b []byte
		var want []api.Value
		for range r.IntN(20) {
			l := aList(r, 64, r.IntN(2) == 0)
			kind := r.IntN(6) - 1
			if kind >= 0 && !encode.Can(kind, l) {
				kind = api.EncPlain
			}
			b = append(b, write(t, kind, l)...)
			want = append(want, l...)
		}
		if got := gather(t, b); !slices.Equal(got, want) {
			t.Fatalf("P7.4: All(%x): %+v, want %+v", b, got, want)
		}
	}
}

// Far more blocks than one: a copy of all that is left at each of them would not end soon.
func TestAllOfVeryMany(t *testing.T) {
	b := slices.Repeat(write(t, -1, ints(7)), 20000)
	n := 0
	for i, v := range block.All(b) {
		if i != n || v != value.Int(7) {
			t.Fatalf("P7.4: %d, %+v", i, v)
		}
		n++
	}
	if n != 20000 {
		t.Error("P7.4:", n)
	}
}
