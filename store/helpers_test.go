package store_test

import (
	"bytes"
	"encoding/binary"
	"hash/crc32"
	"math"
	"slices"
	"strconv"
	"testing"

	"hayloft/api"
	"hayloft/disk"
	"hayloft/rosfile"
	"hayloft/store"
	"hayloft/value"
)

// most is the greatest epoch.
const most = uint64(math.MaxUint64)

// a, b and c are the segments of three; nowhere is one that is not here.
var (
	a       = api.Segment{Proj: 2, Seg: 1}
	b       = api.Segment{Proj: 0, Seg: 300}
	c       = api.Segment{Proj: -5, Seg: math.MinInt}
	nowhere = api.Segment{Proj: 1, Seg: 2}
)

// one is the shape of the chapter's examples; three are shapes of one, two and eight columns.
func one() []api.Shape { return []api.Shape{{At: api.Segment{}, Columns: 1, Sort: []int{0}}} }

func three() []api.Shape {
	return []api.Shape{
		{At: a, Columns: 1, Sort: []int{0}},
		{At: b, Columns: 2, Sort: []int{1, 0}},
		{At: c, Columns: 8},
	}
}

func name(epoch uint64, number uint32) api.RowId { return api.RowId{Epoch: epoch, Number: number} }

// row has so many values, of all kinds.
func row(columns int, n int64) []api.Value {
	all := []api.Value{value.Int(n), value.Text(strconv.FormatInt(n%3, 10)), value.Null(), value.Bool(n%2 == 0)}
	var l []api.Value
	for i := range columns {
		l = append(l, all[i%len(all)])
	}
	return l
}

func columnsOf(at api.Segment) int {
	for _, shape := range three() {
		if shape.At == at {
			return shape.Columns
		}
	}
	return 1
}

// ver is a version of a segment; its row is made of a number.
func ver(at api.Segment, epoch uint64, number uint32, n int64, deleted uint64) api.Version {
	return api.Version{Id: name(epoch, number), Row: row(columnsOf(at), n), Deleted: deleted}
}

func insert(at api.Segment, number uint32, n int64) api.Insert {
	return api.Insert{At: at, Ver: ver(at, 0, number, n, 0)}
}

func erase(at api.Segment, epoch uint64, number uint32) api.Erase {
	return api.Erase{At: at, Id: name(epoch, number)}
}

// coming is a part that inserts alone, going one that deletes alone.
func coming(l ...api.Insert) api.Part { return api.Part{Inserts: l} }

func going(l ...api.Erase) api.Part { return api.Part{Erases: l} }

func held(at api.Segment, l ...api.Version) api.Held { return api.Held{At: at, Versions: l} }

func alikeOne(x, y api.Version) bool {
	return x.Id == y.Id && x.Deleted == y.Deleted && slices.Equal(x.Row, y.Row)
}

func alike(x, y []api.Version) bool { return slices.EqualFunc(x, y, alikeOne) }

// deep is a copy that shares no memory.
func deep(l []api.Version) []api.Version {
	out := slices.Clone(l)
	for i := range out {
		out[i].Row = slices.Clone(out[i].Row)
	}
	return out
}

func byNames(l []api.Version) []api.Version {
	l = deep(l)
	slices.SortStableFunc(l, func(x, y api.Version) int { return compareNames(x.Id, y.Id) })
	return l
}

func compareNames(x, y api.RowId) int {
	switch {
	case x.Epoch < y.Epoch, x.Epoch == y.Epoch && x.Number < y.Number:
		return -1
	case x == y:
		return 0
	}
	return 1
}

// visible is what there is at an epoch, as the document's words say it.
func visible(l []api.Version, epoch uint64) []api.Version {
	var out []api.Version
	for _, v := range l {
		if v.Id.Epoch > epoch || v.Deleted != 0 && v.Deleted <= epoch {
			continue
		}
		v.Deleted = 0 // of what comes later nothing is known yet
		out = append(out, v)
	}
	return out
}

func wantErrno(t *testing.T, what string, got, want api.Errno) {
	t.Helper()
	if got != want {
		t.Errorf("%s: answers %d, want %d", what, got, want)
	}
}

func wantVersions(t *testing.T, what string, got []api.Version, want ...api.Version) {
	t.Helper()
	if !alike(got, want) {
		t.Errorf("%s: %v, want %v", what, got, want)
	}
}

func wantNumbers(t *testing.T, what string, got []uint64, want ...uint64) {
	t.Helper()
	if !slices.Equal(got, want) {
		t.Errorf("%s: %v, want %v", what, got, want)
	}
}

// formatted is a disk that Format has made.
func formatted(t *testing.T, shapes []api.Shape) *disk.Disk {
	t.Helper()
	d := disk.New(1 << 26)
	wantErrno(t, "P11.1: Format", store.Format(d, shapes), api.OK)
	return d
}

// open opens a store that must be.
func open(t *testing.T, what string, d *disk.Disk, shapes []api.Shape) *store.Store {
	t.Helper()
	s, e := store.Open(d, shapes)
	if e != api.OK || s == nil {
		t.Fatalf("P11.2: %s: Open: %d", what, e)
	}
	return s
}

// begin is an empty store of three, and its disk.
func begin(t *testing.T) (*store.Store, *disk.Disk) {
	t.Helper()
	d := formatted(t, three())
	return open(t, "formatted", d, three()), d
}

// wantNotOpened wants that Open is refused.
func wantNotOpened(t *testing.T, what string, d *disk.Disk, shapes []api.Shape, want api.Errno) {
	t.Helper()
	if s, e := store.Open(d, shapes); e != want || s != nil {
		t.Errorf("P11.2: %s: Open: %v, %d, want %d", what, s != nil, e, want)
	}
}

// epoch does a part as the next epoch.
func epoch(t *testing.T, s *store.Store, p api.Part) {
	t.Helper()
	next := s.Through() + 1
	if e := s.Prepare(next+1000, p); e != api.OK {
		t.Fatalf("P11.4: Prepare for epoch %d: %d", next, e)
	}
	if e := s.Decide(next, next+1000); e != api.OK {
		t.Fatalf("P11.5: Decide(%d): %d", next, e)
	}
}

// fileOf writes a container of a segment of three.
func fileOf(t *testing.T, at api.Segment, l ...api.Version) []byte {
	t.Helper()
	for _, shape := range three() {
		if shape.At == at {
			return fileAs(t, shape.Columns, shape.Sort, l...)
		}
	}
	t.Fatal("no such segment:", at)
	return nil
}

func fileAs(t *testing.T, columns int, sort []int, l ...api.Version) []byte {
	t.Helper()
	file, e := rosfile.Write(columns, sort, nil, l)
	if e != api.OK {
		t.Fatal("rosfile.Write:", e)
	}
	return file
}

// moved lays what is loose in a segment into a container.
func moved(t *testing.T, s *store.Store, at api.Segment) {
	t.Helper()
	wantErrno(t, "P11.8: Replace of what is loose", s.Replace(at, nil, true, fileOf(t, at, s.Loose(at)...)), api.OK)
}

// The bytes of the files, as another writer tells them.

func long(n uint64) []byte { return binary.BigEndian.AppendUint64(nil, n) }

func word(n uint32) []byte { return binary.BigEndian.AppendUint32(nil, n) }

func varOf(n int) []byte {
	switch {
	case n < 253:
		return []byte{byte(n)}
	case n < 1<<16:
		return binary.BigEndian.AppendUint16([]byte{253}, uint16(n))
	}
	return binary.BigEndian.AppendUint32([]byte{254}, uint32(n))
}

func framed(body []byte) []byte {
	f := word(uint32(len(body)))
	f = append(f, word(crc32.ChecksumIEEE(f))...)
	f = append(f, body...)
	return append(f, word(crc32.ChecksumIEEE(body))...)
}

// listed is a list of things, each of which is told by one.
func listed[T any](l []T, one func(x T) []byte) []byte {
	out := varOf(len(l))
	for _, x := range l {
		out = append(out, one(x)...)
	}
	return out
}

func nameBytes(id api.RowId) []byte { return slices.Concat(long(id.Epoch), word(id.Number)) }

// rowBytes is a row as chapter 3 writes it, ahead of it how many bytes that are.
func rowBytes(l []api.Value) []byte {
	out := []byte{byte(len(l))}
	for _, v := range l {
		out = append(out, byte(v.Kind))
		switch v.Kind {
		case api.KindBool:
			out = append(out, map[bool]byte{true: 1}[v.Bool])
		case api.KindInt:
			out = append(out, long(uint64(v.Int))...)
		case api.KindText:
			out = append(append(out, byte(len(v.Text))), v.Text...)
		}
	}
	return append(varOf(len(out)), out...)
}

func versionBytes(v api.Version) []byte {
	return slices.Concat(nameBytes(v.Id), rowBytes(v.Row), long(v.Deleted))
}

// partBytes is a part, of segments at their places among the shapes.
func partBytes(shapes []api.Shape, p api.Part) []byte {
	place := func(at api.Segment) []byte {
		return varOf(slices.IndexFunc(shapes, func(s api.Shape) bool { return s.At == at }))
	}
	return slices.Concat(
		listed(p.Inserts, func(i api.Insert) []byte {
			return slices.Concat(place(i.At), word(i.Ver.Id.Number), rowBytes(i.Ver.Row))
		}),
		listed(p.Erases, func(x api.Erase) []byte { return slices.Concat(place(x.At), nameBytes(x.Id)) }),
	)
}

// The records of the log.

func preparedRecord(txn uint64, part []byte) []byte {
	return slices.Concat([]byte{1}, long(txn), part)
}

func decidedRecord(epoch, txn uint64) []byte {
	return slices.Concat([]byte{2}, long(epoch), long(txn))
}

func forgottenRecord(txn uint64) []byte { return slices.Concat([]byte{3}, long(txn)) }

func markRecord(mark uint64) []byte { return slices.Concat([]byte{4}, long(mark)) }

// logBytes is a log in which each record was appended alone.
func logBytes(records ...[]byte) []byte {
	var out []byte
	for _, r := range records {
		out = append(out, framed(slices.Concat([]byte{1}, varOf(len(r)), r))...)
	}
	return out
}

// image is a disk's files by their names, as a disk or a model tells them.
type image map[string][]byte

func imageOf(d *disk.Disk) image {
	m := image{}
	for _, n := range d.Names() {
		m[n], _ = d.Read(n)
	}
	return m
}

func (m image) same(o image) bool {
	if len(m) != len(o) {
		return false
	}
	for n, x := range m {
		if y, ok := o[n]; !ok || !bytes.Equal(x, y) {
			return false
		}
	}
	return true
}

// on is a disk with these files, that last.
func (m image) on(t *testing.T) *disk.Disk {
	t.Helper()
	d := disk.New(1 << 26)
	for n, x := range m {
		wantErrno(t, "a disk", d.Append(n, x), api.OK)
		wantErrno(t, "a disk", d.Sync(n), api.OK)
	}
	return d
}

func wantImage(t *testing.T, what string, d *disk.Disk, want image) {
	t.Helper()
	got := imageOf(d)
	if got.same(want) {
		return
	}
	for n, x := range got {
		if y, ok := want[n]; !ok || !bytes.Equal(x, y) {
			t.Errorf("%s: file %s: %x, want %x", what, n, x, y)
		}
	}
	for n := range want {
		if _, ok := got[n]; !ok {
			t.Errorf("%s: file %s is not there", what, n)
		}
	}
}
