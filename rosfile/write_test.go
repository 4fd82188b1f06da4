package rosfile_test

import (
	"bytes"
	"math"
	"math/rand/v2"
	"slices"
	"testing"

	"hayloft/api"
	"hayloft/block"
	"hayloft/encode"
	"hayloft/rosfile"
	"hayloft/value"
)

// wantContainer wants that l is written as the chapter says, and that this is read.
func wantContainer(t *testing.T, columns int, sort, kinds []int, l []api.Version) {
	t.Helper()
	sorted := ordered(sort, l)
	want := model(t, columns, sort, kinds, sorted)
	if got := write(t, columns, sort, kinds, l); !bytes.Equal(got, want) {
		t.Fatalf("P8.2: Write(%d, %v, %v, %.1000v):\n%.400x, want\n%.400x", columns, sort, kinds, l, got, want)
	}
	wantFile(t, read(t, want), columns, sort, sorted)
}

// The bytes of a small container, written out.
func TestWriteBytes(t *testing.T) {
	block := func(number byte) []byte {
		one := []byte{2, 0, 0, 0, 0, 0, 0, 0, number}
		return seal([]byte{api.EncPlain, 1, 0}, one, one, []byte{0, 9}, one)
	}
	b := write(t, 2, []int{1, 0}, []int{api.EncPlain, api.EncPlain}, []api.Version{gone(9, 4, 3, ints(5, 6)...)})
	// The last three are in the best kind, which of one int is not the plain one.
	front := slices.Concat([]byte("HAY1"), []byte{2, 2, 1, 0}, []byte{0, 0, 0, 1},
		[]byte{0, 0, 0, 36}, block(5), []byte{0, 0, 0, 36}, block(6))
	if len(block(5)) != 36 || !bytes.HasPrefix(b, front) {
		t.Errorf("P8.2: %x, want in front %x", b, front)
	}
	empty := seal([]byte("HAY1"), []byte{3, 2, 2, 0}, make([]byte, 4+6*4))
	if got := write(t, 3, []int{2, 0}, []int{1, 2, 3}, nil); !bytes.Equal(got, empty) {
		t.Errorf("P8.2: of none: %x, want %x", got, empty)
	}
}

func TestWriteHowManyColumns(t *testing.T) {
	for columns := 1; columns <= api.MaxColumns; columns++ {
		sort := make([]int, columns)
		for i := range sort {
			sort[i] = columns - 1 - i
		}
		for n := range columns + 1 {
			wantContainer(t, columns, sort[:n], nil, versionsOf(rand.New(rand.NewPCG(8, 2)), columns, 5))
			wantContainer(t, columns, sort[:n], nil, nil)
		}
	}
}

// MaxBlock values in each block but the last one.
func TestWriteBlocks(t *testing.T) {
	r := rand.New(rand.NewPCG(8, 3))
	for _, n := range []int{1, 63, 64, 65, 127, 128, 129, 192, 1000, api.MaxRows - 1, api.MaxRows} {
		wantContainer(t, 2, []int{1}, []int{api.EncRuns, -1}, versionsOf(r, 2, n))
	}
	l := versionsOf(r, 1, 130)
	b := write(t, 1, nil, nil, l)
	first := b[4+1+1+4+4:]
	for i, many := range []int{64, 64, 2} {
		head, e := block.Head(first)
		if e != api.OK || head.Many != many {
			t.Errorf("P8.2: block %d: %+v, %d", i, head, e)
		}
		first = first[head.Bytes:]
	}
}

// kindsOf are the kinds of the blocks of each column.
func kindsOf(t *testing.T, b []byte, columns, sort int) [][]int {
	t.Helper()
	at := 4 + 1 + 1 + sort + 4
	all := make([][]int, columns+3)
	for n := range all {
		size := int(b[at])<<24 + int(b[at+1])<<16 + int(b[at+2])<<8 + int(b[at+3])
		at += 4
		for end := at + size; at < end; {
			head, e := block.Head(b[at:end])
			if e != api.OK {
				t.Fatal("P8.2: no block:", e)
			}
			all[n] = append(all[n], head.Kind)
			at += head.Bytes
		}
	}
	return all
}

// Each block is in the kind that was asked for, if that can be; else in the best one, and so are the last three columns.
func TestWriteKinds(t *testing.T) {
	var l []api.Version
	for i := range 128 {
		second := value.Int(int64(i))
		if i >= 64 {
			second = value.Text("t") // the second block can't be of ints
		}
		l = append(l, ver(uint64(i+1), 0, value.Int(int64(3*i)), second))
	}
	texts := slices.Repeat(list(value.Text("t")), 64)
	var numbers []api.Value
	for i := range 64 {
		numbers = append(numbers, value.Int(int64(i)))
	}
	behind := kindsOf(t, write(t, 2, nil, nil, l), 2, 0)[2:]
	for _, kind := range append(slices.Clone(kinds), append(strange, -1)...) {
		first, second := kind, kind
		if !encode.Can(kind, numbers) {
			first = encode.Best(numbers)
		}
		if !encode.Can(kind, texts) {
			second = encode.Best(texts)
		}
		for _, k := range [][]int{{2, kind}, {2, kind, kind}, {2, kind, 0, 0, 0, 0, 0, 0, 0, 0}} {
			got := kindsOf(t, write(t, 2, nil, k, l), 2, 0)
			if !slices.Equal(got[0], []int{2, 2}) || !slices.Equal(got[1], []int{first, second}) {
				t.Errorf("P8.2: kinds %v: %v, want of column 1 %d, %d", k, got, first, second)
			}
			if !slices.EqualFunc(got[2:], behind, slices.Equal[[]int]) {
				t.Errorf("P8.2: kinds %v: the last three: %v, want %v", k, got[2:], behind)
			}
			wantContainer(t, 2, nil, k, l)
		}
	}
	best := kindsOf(t, write(t, 2, nil, []int{-1, -1}, l), 2, 0)
	for _, k := range [][]int{nil, {}, {-1}} { // no such number in kinds
		if got := kindsOf(t, write(t, 2, nil, k, l), 2, 0); !slices.EqualFunc(got, best, slices.Equal[[]int]) {
			t.Errorf("P8.2: kinds %v: %v, want %v", k, got, best)
		}
	}
}

func TestWriteModel(t *testing.T) {
	r := rand.New(rand.NewPCG(8, 4))
	for range 600 {
		columns := 1 + r.IntN(api.MaxColumns)
		k := make([]int, r.IntN(columns+4))
		for i := range k {
			k[i] = r.IntN(8) - 2
		}
		wantContainer(t, columns, aSort(r, columns), k, versionsOf(r, columns, r.IntN(300)>>r.IntN(8)))
	}
}

func TestWriteWrongArguments(t *testing.T) {
	right := []api.Version{ver(1, 0, ints(1, 2)...)}
	for _, columns := range []int{0, -1, 9, 10, 256, 258, 1 << 32, 1<<32 + 2, math.MinInt, math.MaxInt} {
		wantUnwritten(t, "columns", columns, nil, nil, api.ErrArg)
		wantUnwritten(t, "columns", columns, nil, right, api.ErrArg)
		wantUnwritten(t, "columns", columns, []int{0}, right, api.ErrArg)
	}
	for _, sort := range [][]int{
		{-1}, {2}, {3}, {8}, {256}, {257}, {1 << 32}, {math.MinInt}, {math.MaxInt}, {0, 2}, {1, -1}, {0, 1, 2},
		{0, 0}, {1, 1}, {0, 1, 0}, {1, 0, 0}, make([]int, 256), make([]int, 257), make([]int, 1000),
	} {
		wantUnwritten(t, "sort", 2, sort, nil, api.ErrArg)
		wantUnwritten(t, "sort", 2, sort, right, api.ErrArg)
	}
	for _, sort := range [][]int{nil, {}, {0}, {1}, {0, 1}, {1, 0}} {
		write(t, 2, sort, nil, right)
	}
	write(t, 8, []int{7, 0, 6, 1, 5, 2, 4, 3}, nil, nil)
	wantUnwritten(t, "nine", 8, []int{7, 0, 6, 1, 5, 2, 4, 3, 3}, nil, api.ErrArg)
}

// wantWrong wants that a version is refused, wherever it stands, and that an argument is refused ahead of it.
func wantWrong(t *testing.T, why string, columns int, v api.Version) {
	t.Helper()
	row := make([]api.Value, columns)
	one, two := ver(100, 1, row...), ver(100, 2, row...)
	for _, l := range [][]api.Version{{v}, {v, one, two}, {one, v, two}, {one, two, v}} {
		wantUnwritten(t, why, columns, nil, l, api.ErrFileRows)
		wantUnwritten(t, why, columns, []int{0}, l, api.ErrFileRows)
		wantUnwritten(t, why, 0, nil, l, api.ErrArg)
		wantUnwritten(t, why, columns, []int{0, 0}, l, api.ErrArg)
	}
}

func TestWriteWrongRows(t *testing.T) {
	for columns := 1; columns <= api.MaxColumns; columns++ {
		for n := range 20 {
			v := ver(1, 0, make([]api.Value, n)...)
			if n == columns {
				write(t, columns, nil, nil, []api.Version{v})
			} else {
				wantWrong(t, "a row of another length", columns, v)
			}
		}
	}
	for _, wrong := range wrongs() {
		for place := range 3 {
			row := ints(1, 2, 3)
			row[place] = wrong
			wantWrong(t, "a value that is not right", 3, ver(1, 0, row...))
		}
	}
	write(t, 1, nil, nil, []api.Version{ver(1, 0, value.Text(long(api.MaxText)))})
}

func TestWriteWrongEpochs(t *testing.T) {
	const most = math.MaxInt64
	for _, k := range []struct {
		came, gone uint64
		right      bool
	}{
		{1, 0, true}, {1, 2, true}, {1, most, true}, {most, 0, true}, {most - 1, most, true}, {5, 6, true}, {1 << 40, 1<<40 + 1, true},
		{0, 0, false}, {0, 1, false}, {0, most, false},
		{most + 1, 0, false}, {most + 1, most + 2, false}, {math.MaxUint64, 0, false},
		{1, 1, false}, {5, 5, false}, {5, 4, false}, {5, 1, false}, {most, most, false}, {most, 1, false},
		{1, most + 1, false}, {most, most + 1, false}, {1, math.MaxUint64, false},
	} {
		v := gone(k.gone, k.came, 7, value.Int(1))
		if k.right {
			f := make1(t, 1, nil, []api.Version{v})
			wantFile(t, f, 1, nil, []api.Version{v})
		} else {
			wantWrong(t, "epochs", 1, v)
		}
	}
}

func TestWriteWrongNames(t *testing.T) {
	a, b := ver(100, 1, value.Int(1)), ver(100, 2, value.Int(1))
	for _, again := range []api.Version{ver(100, 1, value.Int(1)), ver(100, 1, value.Int(2)), gone(101, 100, 1, value.Null())} {
		for _, l := range [][]api.Version{{a, again}, {again, a}, {a, b, again}, {b, a, again}} {
			wantUnwritten(t, "a name twice", 1, nil, l, api.ErrFileRows)
			wantUnwritten(t, "a name twice", 1, []int{0}, l, api.ErrFileRows)
			wantUnwritten(t, "a name twice", 9, nil, l, api.ErrArg)
		}
	}
	l := versionsOf(rand.New(rand.NewPCG(8, 5)), 1, 300)
	l[299].Id, l[299].Deleted = l[0].Id, 0
	wantUnwritten(t, "a name twice", 1, nil, l, api.ErrFileRows)
	for _, number := range []uint32{0, 1, 255, 256, 1 << 16, 1 << 31, math.MaxUint32} {
		wantContainer(t, 1, []int{0}, nil, []api.Version{ver(3, number, value.Int(1)), ver(2, number, value.Int(1)), ver(3, number^1, value.Int(1))})
	}
}

func TestWriteTooMany(t *testing.T) {
	var l []api.Version
	for i := range api.MaxRows + 1 {
		l = append(l, ver(1, uint32(i), value.Null()))
	}
	wantUnwritten(t, "too many", 1, nil, l, api.ErrFileRows)
	wantUnwritten(t, "too many", 1, []int{0}, append(l, l...), api.ErrFileRows)
	wantUnwritten(t, "too many", 1, []int{1}, l, api.ErrArg)
	if f := make1(t, 1, nil, l[1:]); f.Len() != api.MaxRows {
		t.Error("P8.2:", f.Len())
	}
}

// A container as large as may be.
func TestWriteLargest(t *testing.T) {
	var l []api.Version
	for i := range api.MaxRows {
		v := ver(math.MaxInt64, uint32(i))
		for n := range api.MaxColumns {
			text := []byte(long(api.MaxText))
			text[0], text[1], text[2] = byte(n), byte(i>>8), byte(i)
			v.Row = append(v.Row, value.Text(string(text)))
		}
		l = append(l, v)
	}
	plain := make([]int, api.MaxColumns)
	b, e := rosfile.Write(api.MaxColumns, []int{0}, plain, l)
	if e != api.OK {
		t.Fatal("P8.2:", e)
	}
	wantFile(t, read(t, b), api.MaxColumns, []int{0}, l)
}
