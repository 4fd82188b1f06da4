package rosfile_test

import (
	"encoding/binary"
	"hash/crc32"
	"iter"
	"math"
	"math/rand/v2"
	"slices"
	"strings"
	"testing"

	"hayloft/api"
	"hayloft/block"
	"hayloft/encode"
	"hayloft/rosfile"
	"hayloft/value"
)

// kinds are the five.
var kinds = []int{api.EncPlain, api.EncRuns, api.EncDelta, api.EncDict, api.EncBits}

// strange are kinds that there are not.
var strange = []int{-2, 5, 6, 9, 255, 256, 257, 260, 1 << 32, 1<<32 + 1, math.MinInt, math.MaxInt}

// long is a text of n bytes.
func long(n int) string { return strings.Repeat("a", n) }

// list makes one of values.
func list(l ...api.Value) []api.Value { return l }

func ints(numbers ...int64) []api.Value {
	var l []api.Value
	for _, n := range numbers {
		l = append(l, value.Int(n))
	}
	return l
}

// ver is a version that was not deleted.
func ver(epoch uint64, number uint32, row ...api.Value) api.Version {
	return api.Version{Id: api.RowId{Epoch: epoch, Number: number}, Row: row}
}

// gone is a version that was deleted.
func gone(deleted, epoch uint64, number uint32, row ...api.Value) api.Version {
	return api.Version{Id: api.RowId{Epoch: epoch, Number: number}, Row: row, Deleted: deleted}
}

// wrongs are values that are not right.
func wrongs() []api.Value {
	return []api.Value{
		{Kind: -1},
		{Kind: 4},
		{Kind: 256},
		{Kind: 1<<32 + 2, Int: 5},
		{Kind: math.MinInt},
		{Bool: true},
		{Int: 1},
		{Text: "a"},
		{Kind: 1, Int: 1},
		{Kind: 2, Bool: true},
		{Kind: 2, Int: 1, Text: "1"},
		{Kind: 3, Int: 1, Text: "a"},
		{Kind: 3, Text: long(api.MaxText + 1)},
		{Kind: 3, Text: long(257)},
	}
}

// alike tells whether two lists have the same versions; a nil row and an empty one are the same.
func alike(a, b []api.Version) bool {
	return slices.EqualFunc(a, b, func(a, b api.Version) bool {
		return a.Id == b.Id && a.Deleted == b.Deleted && slices.Equal(a.Row, b.Row)
	})
}

// deep is a copy of l that shares nothing with it.
func deep(l []api.Version) []api.Version {
	var c []api.Version
	for _, v := range l {
		v.Row = slices.Clone(v.Row)
		c = append(c, v)
	}
	return c
}

// ahead is the order of a container as the chapter tells it.
func ahead(sort []int, a, b api.Version) bool {
	var first, second []api.Value
	for _, place := range sort {
		x, y := value.Null(), value.Null()
		if place >= 0 && place < len(a.Row) {
			x = a.Row[place]
		}
		if place >= 0 && place < len(b.Row) {
			y = b.Row[place]
		}
		first, second = append(first, x), append(second, y)
	}
	if c := value.Rows(first, second); c != 0 {
		return c < 0
	}
	if a.Id.Epoch != b.Id.Epoch {
		return a.Id.Epoch < b.Id.Epoch
	}
	return a.Id.Number < b.Id.Number
}

// ordered is Sorted, one by one: each version goes behind all that it is not ahead of.
func ordered(sort []int, l []api.Version) []api.Version {
	var s []api.Version
	for _, v := range deep(l) {
		i := len(s)
		for i > 0 && ahead(sort, v, s[i-1]) {
			i--
		}
		s = slices.Insert(s, i, v)
	}
	return s
}

// blocks are the blocks of a column, of so many values each, in the kind that is asked for where that can be.
func blocks(t *testing.T, kind, each int, l []api.Value) []byte {
	t.Helper()
	var all []byte
	for piece := range slices.Chunk(l, each) {
		k := encode.Best(piece)
		if encode.Can(kind, piece) {
			k = kind
		}
		b, e := block.Write(k, piece)
		if e != api.OK {
			t.Fatal("a block that can't be:", e)
		}
		all = append(all, b...)
	}
	return all
}

// seal puts the sum behind b, as another writer tells it.
func seal(b ...[]byte) []byte {
	all := slices.Concat(b...)
	return binary.BigEndian.AppendUint32(all, crc32.ChecksumIEEE(all))
}

// lay makes a container of what is said, right or not.
func lay(mark string, columns int, sort []int, many int, all ...[]byte) []byte {
	b := append([]byte(mark), byte(columns), byte(len(sort)))
	for _, place := range sort {
		b = append(b, byte(place))
	}
	b = binary.BigEndian.AppendUint32(b, uint32(many))
	for _, column := range all {
		b = binary.BigEndian.AppendUint32(b, uint32(len(column)))
		b = append(b, column...)
	}
	return seal(b)
}

// cells are the columns of versions, the last three too.
func cells(columns int, l []api.Version) [][]api.Value {
	all := make([][]api.Value, columns+3)
	for _, v := range l {
		for i, x := range v.Row {
			all[i] = append(all[i], x)
		}
		for i, n := range []uint64{v.Id.Epoch, uint64(v.Id.Number), v.Deleted} {
			all[columns+i] = append(all[columns+i], value.Int(int64(n)))
		}
	}
	return all
}

// model is the container of these versions, that must be in order, as the chapter tells it.
func model(t *testing.T, columns int, sort, kinds []int, l []api.Version) []byte {
	t.Helper()
	var all [][]byte
	for i, column := range cells(columns, l) {
		kind := -1
		if i < len(kinds) && i < columns {
			kind = kinds[i]
		}
		all = append(all, blocks(t, kind, api.MaxBlock, column))
	}
	return lay("HAY1", columns, sort, len(l), all...)
}

// write writes a container that must be.
func write(t *testing.T, columns int, sort, kinds []int, l []api.Version) []byte {
	t.Helper()
	b, e := rosfile.Write(columns, sort, kinds, l)
	if e != api.OK {
		t.Fatalf("P8.2: Write(%d, %v, %v, %d versions): %d", columns, sort, kinds, len(l), e)
	}
	return b
}

// read reads a container that must be one.
func read(t *testing.T, b []byte) *rosfile.File {
	t.Helper()
	f, e := rosfile.Read(b)
	if e != api.OK || f == nil {
		t.Fatalf("P8.3: Read(%d bytes: %.400x): %d", len(b), b, e)
	}
	return f
}

// make1 writes a container, and reads it.
func make1(t *testing.T, columns int, sort []int, l []api.Version) *rosfile.File {
	t.Helper()
	return read(t, write(t, columns, sort, nil, l))
}

// wantUnwritten wants that l is not written.
func wantUnwritten(t *testing.T, why string, columns int, sort []int, l []api.Version, want api.Errno) {
	t.Helper()
	for _, kinds := range [][]int{nil, {0, 1}, {-1, -7, 99, 3, 3, 3, 3, 3, 3, 3, 3, 3, 3}} {
		if b, e := rosfile.Write(columns, sort, kinds, l); e != want || len(b) > 0 {
			t.Fatalf("P8.2: %s: Write(%d, %v, %v, %d versions): %d bytes, %d, want %d", why, columns, sort, kinds, len(l), len(b), e, want)
		}
	}
}

// wantUnread wants that b is no container.
func wantUnread(t *testing.T, why string, b []byte) {
	t.Helper()
	if f, e := rosfile.Read(b); e != api.ErrFileForm || f != nil {
		t.Fatalf("P8.3: %s: Read(%.400x): %v, %d", why, b, f != nil, e)
	}
}

// wantFile wants that f tells what it must, by all of its calls but From.
func wantFile(t *testing.T, f *rosfile.File, columns int, sort []int, l []api.Version) {
	t.Helper()
	if f.Len() != len(l) || f.Columns() != columns || !slices.Equal(f.Sort(), sort) {
		t.Fatalf("P8.3: Len %d, Columns %d, Sort %v, want %d, %d, %v", f.Len(), f.Columns(), f.Sort(), len(l), columns, sort)
	}
	wantVersions(t, "All", f.All(), l)
	for n, column := range cells(columns, l)[:columns] {
		if got := slices.Collect(f.Column(n)); !slices.Equal(got, column) {
			t.Fatalf("P8.4: Column(%d): %+v, want %+v", n, got, column)
		}
	}
	var least, greatest uint64
	for i, v := range l {
		if place, ok := f.Find(v.Id); place != i || !ok {
			t.Fatalf("P8.4: Find(%v): %d, %v, want %d", v.Id, place, ok, i)
		}
		if i == 0 || v.Id.Epoch < least {
			least = v.Id.Epoch
		}
		greatest = max(greatest, v.Id.Epoch)
	}
	if a, z := f.Epochs(); a != least || z != greatest {
		t.Fatalf("P8.4: Epochs: %d, %d, want %d, %d", a, z, least, greatest)
	}
}

// wantVersions wants that seq gives these versions, in this order.
func wantVersions(t *testing.T, what string, seq iter.Seq[api.Version], l []api.Version) {
	t.Helper()
	if got := slices.Collect(seq); !alike(got, l) {
		t.Fatalf("P8.4: %s: %+v, want %+v", what, got, l)
	}
}

// anInt is any, small ones more often.
func anInt(r *rand.Rand) api.Value {
	return value.Int(int64(r.Uint64()) >> r.IntN(64))
}

// aValue is any right value.
func aValue(r *rand.Rand) api.Value {
	switch r.IntN(4) {
	case 0:
		return value.Null()
	case 1:
		return value.Bool(r.IntN(2) == 0)
	case 2:
		return anInt(r)
	}
	b := make([]byte, r.IntN(api.MaxText+1)>>r.IntN(7))
	for i := range b {
		b[i] = byte(r.Uint32())
	}
	return value.Text(string(b))
}

// smallValue is one of few, so that many are alike.
func smallValue(r *rand.Rand) api.Value {
	return []api.Value{value.Null(), value.Bool(true), value.Int(-1), value.Int(2), value.Text(""), value.Text("a")}[r.IntN(6)]
}

// aSort is some of the columns, in any order.
func aSort(r *rand.Rand, columns int) []int {
	return r.Perm(columns)[:r.IntN(columns+1)]
}

// versionsOf are n versions, in no order, no two of one name.
func versionsOf(r *rand.Rand, columns, n int) []api.Version {
	ofColumn := make([]func(*rand.Rand) api.Value, columns)
	for i := range ofColumn {
		ofColumn[i] = []func(*rand.Rand) api.Value{aValue, smallValue, smallValue, anInt}[r.IntN(4)]
	}
	used := map[api.RowId]bool{}
	var l []api.Version
	for len(l) < n {
		v := ver(1+r.Uint64()>>(1+r.IntN(63)), r.Uint32()>>r.IntN(32))
		if v.Id.Epoch > math.MaxInt64 || used[v.Id] {
			continue
		}
		used[v.Id] = true
		if later := uint64(math.MaxInt64) - v.Id.Epoch; later > 0 && r.IntN(3) == 0 {
			v.Deleted = v.Id.Epoch + 1 + r.Uint64N(later)>>r.IntN(63)
		}
		for _, one := range ofColumn {
			v.Row = append(v.Row, one(r))
		}
		l = append(l, v)
	}
	return l
}
