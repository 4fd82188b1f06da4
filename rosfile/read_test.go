package rosfile_test

import (
	"math"
	"math/rand/v2"
	"slices"
	"testing"

	"hayloft/api"
	"hayloft/value"
)

// few are versions in the order of columns 0 and 1, and the blocks of their columns.
func few(t *testing.T) ([]api.Version, [][]byte) {
	t.Helper()
	l := []api.Version{
		ver(4, 1, value.Int(-3), value.Text("b")),
		gone(9, 2, 0, value.Int(5), value.Text("a")),
		ver(2, 1, value.Int(5), value.Text("a")),
		gone(4, 3, 0, value.Int(5), value.Text("a")),
	}
	return l, blocksOf(t, 2, l)
}

// blocksOf are the blocks of each column, the last three too.
func blocksOf(t *testing.T, columns int, l []api.Version) [][]byte {
	t.Helper()
	var all [][]byte
	for _, column := range cells(columns, l) {
		all = append(all, blocks(t, -1, api.MaxBlock, column))
	}
	return all
}

func TestReadWhatIsLaid(t *testing.T) {
	l, all := few(t)
	wantFile(t, read(t, lay("HAY1", 2, []int{0, 1}, 4, all...)), 2, []int{0, 1}, l)
	wantFile(t, read(t, lay("HAY1", 2, []int{0}, 4, all...)), 2, []int{0}, l)
	wantFile(t, read(t, lay("HAY1", 1, nil, 0, nil, nil, nil, nil)), 1, nil, nil)
}

// Each block may be in whatever kind, those of the last three columns too.
func TestReadWhateverKind(t *testing.T) {
	r := rand.New(rand.NewPCG(8, 6))
	for range 300 {
		columns := 1 + r.IntN(4)
		sort := aSort(r, columns)
		l := ordered(sort, versionsOf(r, columns, r.IntN(200)))
		var all [][]byte
		for _, column := range cells(columns, l) {
			var b []byte
			for piece := range slices.Chunk(column, api.MaxBlock) {
				b = append(b, blocks(t, r.IntN(5), api.MaxBlock, piece)...)
			}
			all = append(all, b)
		}
		wantFile(t, read(t, lay("HAY1", columns, sort, len(l), all...)), columns, sort, l)
	}
}

func TestReadWrongFront(t *testing.T) {
	_, all := few(t)
	for _, mark := range []string{"", "H", "HAY", "HAY0", "HAY2", "hay1", "1YAH", "HAY1\x00", "\x00HAY1", "HBY1", "IAY1", "HAX1"} {
		wantUnread(t, "mark", lay(mark, 2, []int{0}, 4, all...))
		wantUnread(t, "mark", lay(mark, 1, nil, 0, nil, nil, nil, nil))
	}
	for columns := range 256 {
		if columns != 2 {
			wantUnread(t, "columns", lay("HAY1", columns, []int{0}, 4, all...))
			wantUnread(t, "columns", lay("HAY1", columns, nil, 0, make([][]byte, 5)...))
		}
	}
	for _, columns := range []int{0, 9, 10, 255} { // with as many columns as it says
		wantUnread(t, "columns", lay("HAY1", columns, nil, 0, make([][]byte, columns+3)...))
	}
	for _, sort := range [][]int{{2}, {255}, {0, 0}, {1, 1}, {0, 1, 0}, {0, 2}, {0, 1, 2}, make([]int, 255)} {
		wantUnread(t, "sort", lay("HAY1", 2, sort, 4, all...))
		wantUnread(t, "sort", lay("HAY1", 2, sort, 0, make([][]byte, 5)...))
	}
	for _, many := range []int{0, 1, 3, 5, 64, 65, api.MaxRows, api.MaxRows + 1, 1 << 16, 1<<16 + 4, 1 << 31, math.MaxUint32} {
		wantUnread(t, "how many", lay("HAY1", 2, []int{0}, many, all...))
		if many > 0 {
			wantUnread(t, "how many", lay("HAY1", 2, []int{0}, many, make([][]byte, 5)...))
		}
	}
}

func TestReadWrongColumns(t *testing.T) {
	_, all := few(t)
	for n := range all {
		wrong := func(why string, b []byte) {
			t.Helper()
			parts := slices.Clone(all)
			parts[n] = b
			wantUnread(t, why, lay("HAY1", 2, []int{0}, 4, parts...))
		}
		wrong("no block", nil)
		wrong("a block twice", slices.Concat(all[n], all[n]))
		wrong("a byte behind", append(slices.Clone(all[n]), 0))
		wrong("a byte too few", all[n][:len(all[n])-1])
		wrong("no bytes of a block", []byte("block"))
		wrong("another sum", append(slices.Clone(all[n][:len(all[n])-1]), all[n][len(all[n])-1]^1))
		wantUnread(t, "a column too few", lay("HAY1", 2, []int{0}, 4, slices.Delete(slices.Clone(all), n, n+1)...))
		wantUnread(t, "a column too many", lay("HAY1", 2, []int{0}, 4, slices.Insert(slices.Clone(all), n, all[n])...))
	}
	wantUnread(t, "a column too many", lay("HAY1", 2, []int{0}, 4, append(slices.Clone(all), nil)...))
	wantUnread(t, "a column too many", lay("HAY1", 1, nil, 0, nil, nil, nil, nil, nil))
	wantUnread(t, "a column too few", lay("HAY1", 1, nil, 0, nil, nil, nil))
	for _, size := range []byte{1, 4, 255} { // a length past the end
		wantUnread(t, "length", seal([]byte("HAY1"), []byte{1, 0}, make([]byte, 4+15), []byte{size}))
		wantUnread(t, "length", seal([]byte("HAY1"), []byte{1, 0}, make([]byte, 4+12), []byte{size, 0, 0, 0}))
	}
}

// MaxBlock values in each block but the last one: neither fewer, nor more blocks.
func TestReadWrongBlocks(t *testing.T) {
	l := ordered(nil, versionsOf(rand.New(rand.NewPCG(8, 7)), 1, 100))
	all := blocksOf(t, 1, l)
	columns := cells(1, l)
	wantFile(t, read(t, lay("HAY1", 1, nil, 100, all...)), 1, nil, l)
	for n := range all {
		for _, each := range []int{1, 32, 36, 50, 63} {
			parts := slices.Clone(all)
			parts[n] = blocks(t, -1, each, columns[n])
			wantUnread(t, "smaller blocks", lay("HAY1", 1, nil, 100, parts...))
		}
		first := slices.Concat(blocks(t, -1, 64, columns[n][:36]), blocks(t, -1, 64, columns[n][36:]))
		parts := slices.Clone(all)
		parts[n] = first
		wantUnread(t, "the smaller one first", lay("HAY1", 1, nil, 100, parts...))
		parts[n] = slices.Concat(all[n], blocks(t, -1, 64, ints(1)))
		wantUnread(t, "a value too many", lay("HAY1", 1, nil, 100, parts...))
		parts[n] = blocks(t, -1, 64, columns[n][:99])
		wantUnread(t, "a value too few", lay("HAY1", 1, nil, 100, parts...))
		parts[n] = blocks(t, -1, 64, columns[n][:64])
		wantUnread(t, "a block too few", lay("HAY1", 1, nil, 100, parts...))
	}
	var too []api.Version
	for i := range api.MaxRows + 1 {
		too = append(too, ver(1, uint32(i), value.Null()))
	}
	wantUnread(t, "too many", lay("HAY1", 1, nil, len(too), blocksOf(t, 1, too)...))
	read(t, lay("HAY1", 1, nil, len(too)-1, blocksOf(t, 1, too[1:])...))
}

// A cell of the last three columns that is no int, or one that can't be.
func TestReadWrongNumbers(t *testing.T) {
	_, all := few(t)
	for _, k := range []struct {
		column int
		right  []int64
		wrong  []api.Value
	}{
		{2, []int64{4, 2, 2, 3}, ints(0, -1, math.MinInt64, math.MinInt64+4)},
		{3, []int64{1, 0, 1, 0}, ints(-1, math.MinInt64, 1<<32, 1<<32+1, math.MaxInt64, math.MinInt64+1)},
		{4, []int64{0, 9, 0, 4}, ints(-1, 1, 2, math.MinInt64)},
	} {
		for place := range 4 {
			for _, v := range append(k.wrong, value.Null(), value.Bool(true), value.Bool(false), value.Text(""), value.Text("9")) {
				column := ints(k.right...)
				column[place] = v
				for kind := range 5 {
					parts := slices.Clone(all)
					parts[k.column] = blocks(t, kind, api.MaxBlock, column)
					wantUnread(t, "number", lay("HAY1", 2, nil, 4, parts...))
					wantUnread(t, "number", lay("HAY1", 2, []int{0}, 4, parts...))
				}
			}
		}
	}
}

// Versions that Write does not take, but for those above.
func TestReadWrongVersions(t *testing.T) {
	v := value.Int(1)
	for why, l := range map[string][]api.Version{
		"a name twice":                 {ver(2, 0, v), ver(2, 0, v)},
		"a name twice, gone once":      {ver(2, 0, v), gone(3, 2, 0, v)},
		"a name twice, rows in order":  {ver(2, 0, v), ver(2, 0, value.Int(2))},
		"gone as it came":              {gone(5, 5, 0, v)},
		"gone ahead of coming":         {gone(4, 5, 0, v)},
		"gone behind all epochs":       {gone(1<<63, 5, 0, v)},
		"came at no epoch":             {ver(0, 0, v)},
		"came at none, gone at one":    {gone(1, 0, 0, v)},
		"came behind all epochs":       {ver(1<<63, 0, v)},
		"a name twice, others between": {ver(2, 0, v), ver(1, 9, value.Int(2)), ver(2, 0, value.Int(3))},
	} {
		wantUnread(t, why, lay("HAY1", 1, []int{0}, len(l), blocksOf(t, 1, l)...))
		wantUnread(t, why, lay("HAY1", 1, nil, len(l), blocksOf(t, 1, l)...))
	}
}

func TestReadWrongOrder(t *testing.T) {
	a, b := ver(2, 5, value.Int(1), value.Int(9)), ver(2, 4, value.Int(3), value.Int(2))
	c, d := ver(1, 7, value.Int(3), value.Int(2)), ver(2, 6, value.Int(1), value.Int(9))
	for _, k := range []struct {
		sort  []int
		l     []api.Version
		right bool
	}{
		{[]int{0}, []api.Version{a, b}, true},
		{[]int{0}, []api.Version{b, a}, false},
		{[]int{1}, []api.Version{a, b}, false},
		{[]int{1}, []api.Version{b, a}, true},
		{[]int{0, 1}, []api.Version{a, b}, true},
		{[]int{1, 0}, []api.Version{a, b}, false},
		{nil, []api.Version{a, b}, false},
		{nil, []api.Version{b, a}, true},
		{[]int{0}, []api.Version{c, b}, true}, // alike: by their names
		{[]int{0}, []api.Version{b, c}, false},
		{[]int{1, 0}, []api.Version{a, d}, true},
		{[]int{1, 0}, []api.Version{d, a}, false},
		{nil, []api.Version{c, b, a, d}, true},
		{nil, []api.Version{c, b, d, a}, false},
		{nil, []api.Version{b, a, d, c}, false},
	} {
		bytes := lay("HAY1", 2, k.sort, len(k.l), blocksOf(t, 2, k.l)...)
		if k.right {
			wantFile(t, read(t, bytes), 2, k.sort, k.l)
		} else {
			wantUnread(t, "order", bytes)
		}
	}
	// Two that stand in one another's place, anywhere in a long one.
	l := ordered([]int{0}, versionsOf(rand.New(rand.NewPCG(8, 8)), 1, 130))
	for i := range 129 {
		l[i], l[i+1] = l[i+1], l[i]
		wantUnread(t, "order", lay("HAY1", 1, []int{0}, 130, blocksOf(t, 1, l)...))
		l[i], l[i+1] = l[i+1], l[i]
	}
}

func TestReadWrongEnd(t *testing.T) {
	l, all := few(t)
	b := lay("HAY1", 2, []int{0}, 4, all...)
	for n := range b {
		wantUnread(t, "cut", b[:n])
		if n != len(b)-4 { // that is b itself
			wantUnread(t, "cut, with a sum", seal(b[:n]))
		}
		wantUnread(t, "the front is off", b[n+1:])
	}
	for _, behind := range []string{"\x00", "\x00\x00\x00\x00", "HAY1", string(b)} {
		wantUnread(t, "something behind", append(slices.Clone(b), behind...))
		wantUnread(t, "something behind, with a sum", seal(b, []byte(behind)))
		wantUnread(t, "something within, with a sum", seal(b[:len(b)-4], []byte(behind)))
	}
	for i := range 4 {
		for x := 1; x < 256; x++ {
			wrong := slices.Clone(b)
			wrong[len(b)-4+i] ^= byte(x)
			wantUnread(t, "sum", wrong)
		}
	}
	reversed := slices.Clone(b)
	slices.Reverse(reversed[len(b)-4:])
	wantUnread(t, "the sum's lowest byte first", reversed)
	wantUnread(t, "nothing", nil)
	wantUnread(t, "nothing", []byte{})
	wantUnread(t, "nothing, with a sum", seal())
	wantUnread(t, "the mark alone", seal([]byte("HAY1")))
	wantFile(t, read(t, b), 2, []int{0}, l)
}
