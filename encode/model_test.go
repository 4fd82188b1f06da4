package encode_test

import (
	"bytes"
	"math/big"
	"math/rand/v2"
	"slices"
	"strings"
	"testing"

	"hayloft/api"
	"hayloft/encode"
	"hayloft/rows"
	"hayloft/value"
)

// The model writes what the chapter says with whole numbers of any size, and with bits as texts.

func big64(n int64) *big.Int { return big.NewInt(n) }

// unsigned is n modulo 2^64.
func unsigned(n *big.Int) *big.Int {
	return new(big.Int).Mod(n, new(big.Int).Lsh(big64(1), 64))
}

func modelWord(n int64) []byte {
	return unsigned(big64(n)).FillBytes(make([]byte, 8))
}

func modelValue(v api.Value) []byte {
	b, _ := rows.Encode([]api.Value{v})
	return b[1:]
}

// modelPack lays the bits of all numbers into one text, the first bit first, and cuts it into bytes.
func modelPack(numbers []*big.Int, width int) []byte {
	var all strings.Builder
	for _, n := range numbers {
		for k := range width {
			all.WriteByte('0' + byte(n.Bit(k)))
		}
	}
	s := all.String() + strings.Repeat("0", (8-all.Len()%8)%8)
	var b []byte
	for ; s != ""; s = s[8:] {
		x := byte(0)
		for k := 7; k >= 0; k-- {
			x = 2*x + s[k] - '0'
		}
		b = append(b, x)
	}
	return b
}

func modelPlain(l []api.Value) []byte {
	var b []byte
	for _, v := range l {
		b = append(b, modelValue(v)...)
	}
	return b
}

func modelRuns(l []api.Value) []byte {
	var b []byte
	for i := 0; i < len(l); {
		k := i
		for k < len(l) && l[k] == l[i] {
			k++
		}
		b = append(append(b, byte(k-i)), modelValue(l[i])...)
		i = k
	}
	return b
}

func modelDelta(l []api.Value) []byte {
	b := modelWord(l[0].Int)
	half := new(big.Int).Lsh(big64(1), 63)
	for i := 1; i < len(l); i++ {
		d := unsigned(new(big.Int).Sub(big64(l[i].Int), big64(l[i-1].Int)))
		if d.Cmp(half) >= 0 {
			d.Sub(d, new(big.Int).Lsh(half, 1))
		}
		z := new(big.Int).Mul(d, big64(2))
		if d.Sign() < 0 {
			z.Neg(z).Sub(z, big64(1))
		}
		for z.Cmp(big64(128)) >= 0 {
			low := new(big.Int)
			z.DivMod(z, big64(128), low)
			b = append(b, byte(low.Int64())+128)
		}
		b = append(b, byte(z.Int64()))
	}
	return b
}

func modelDict(l []api.Value) []byte {
	at := map[api.Value]int{}
	for _, v := range l {
		at[v] = 0
	}
	for v := range at {
		for other := range at {
			if value.Compare(other, v) < 0 {
				at[v]++
			}
		}
	}
	unlike := make([]api.Value, len(at))
	for v, i := range at {
		unlike[i] = v
	}
	width := 0
	for 1<<width < len(at) {
		width++
	}
	var places []*big.Int
	for _, v := range l {
		places = append(places, big64(int64(at[v])))
	}
	return slices.Concat([]byte{byte(len(at))}, modelPlain(unlike), modelPack(places, width))
}

func modelBits(l []api.Value) []byte {
	least := slices.MinFunc(l, value.Compare).Int
	width := 0
	var above []*big.Int
	for _, v := range l {
		n := new(big.Int).Sub(big64(v.Int), big64(least))
		width = max(width, n.BitLen())
		above = append(above, n)
	}
	return slices.Concat(modelWord(least), []byte{byte(width)}, modelPack(above, width))
}

func model(kind int, l []api.Value) []byte {
	if len(l) == 0 {
		return nil
	}
	return []func([]api.Value) []byte{modelPlain, modelRuns, modelDelta, modelDict, modelBits}[kind](l)
}

func TestModel(t *testing.T) {
	r := rand.New(rand.NewPCG(6, 1))
	for range 3000 {
		ofInts := r.IntN(2) == 0
		l := aList(r, 64>>r.IntN(6), ofInts)
		for _, kind := range kinds {
			if (kind == api.EncDelta || kind == api.EncBits) && !ofInts {
				continue
			}
			want := model(kind, l)
			if b, e := encode.Encode(kind, l); e != api.OK || !bytes.Equal(b, want) {
				t.Fatalf("P6.1: Encode(%d, %+v): %x, %d, want %x", kind, l, b, e, want)
			}
			if got, e := encode.Decode(kind, want, len(l)); e != api.OK || !slices.Equal(got, l) {
				t.Fatalf("P6.2: Decode(%d, %x, %d): %+v, %d, want %+v", kind, want, len(l), got, e, l)
			}
		}
	}
}
