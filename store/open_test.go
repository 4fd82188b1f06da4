package store_test

import (
	"math"
	"slices"
	"strings"
	"testing"

	"hayloft/api"
	"hayloft/disk"
	"hayloft/value"
)

// full is a world with something of everything: segment a has two containers, b one, c none; through is 6, the mark 2.
func full(t *testing.T) *world {
	t.Helper()
	w := newWorld(three())
	w.generation, w.next, w.through, w.mark = 9, 12, 6, 2
	w.segments[0].files = []written{
		container(t, a, 11, ver(a, 1, 0, 9, 0), ver(a, 1, 1, 3, 4), ver(a, 3, 0, 5, 0)),
		container(t, a, 2, ver(a, 2, 7, 1, 0)),
	}
	w.segments[0].loose = []api.Version{ver(a, 2, 6, 4, 0), ver(a, 2, 8, 4, 3), ver(a, 6, math.MaxUint32, 8, 0)}
	w.segments[0].erased = map[api.RowId]uint64{name(1, 0): 6, name(2, 7): 3}
	w.segments[1].files = []written{container(t, b, 5, ver(b, 1, 0, 9, 0), ver(b, 2, 7, 1, 6))}
	w.segments[2].loose = []api.Version{ver(c, 1, 0, 9, 0), ver(c, 5, 0, 2, 6)}
	w.prepared[4] = coming(insert(a, 0, 5), insert(a, 1, 6), insert(b, 0, 7), insert(c, math.MaxUint32, 8))
	w.prepared[0] = api.Part{}
	w.prepared[most] = api.Part{
		Inserts: []api.Insert{insert(c, 0, 1)},
		Erases:  []api.Erase{erase(a, 3, 0), erase(a, 2, 7), erase(b, 3, 0), erase(c, 77, 0), erase(c, 0, 0)}, // also such as are deleted, or not there
	}
	w.manifest = w.told()
	return w
}

func container(t *testing.T, at api.Segment, number uint64, l ...api.Version) written {
	t.Helper()
	w := newWorld(three())
	w.through, w.mark = 6, 6
	g := &w.segments[w.place(at)]
	g.loose = l
	w.next = number
	wantErrno(t, "a container", w.replace(at, nil, true, fileOf(t, at, l...)), api.OK)
	return g.files[0]
}

// opened wants that a world's files are opened, and tell it.
func (w *world) opened(t *testing.T, what string) {
	t.Helper()
	d := w.image().on(t)
	steps := d.Steps()
	s := open(t, what, d, w.shapes)
	w.want(t, what, s)
	wantImage(t, "P11.2: "+what, d, w.image())
	if d.Steps() != steps+1 {
		t.Errorf("P11.2: %s: %d steps, want the log's Sync", what, d.Steps()-steps)
	}
}

// refused wants that files are refused as no store's, and not changed.
func (m image) refused(t *testing.T, what string) {
	t.Helper()
	m["x"] = []byte("left over")
	d := m.on(t)
	steps := d.Steps()
	wantNotOpened(t, what, d, three(), api.ErrStoreForm)
	wantImage(t, "P11.2: "+what+": refused ahead of all steps", d, m)
	if d.Steps() != steps {
		t.Errorf("P11.2: %s: %d steps", what, d.Steps()-steps)
	}
}

func TestOpenFull(t *testing.T) {
	w := full(t)
	w.opened(t, "something of everything")
	newWorld(three()).opened(t, "nothing")
	newWorld(nil).opened(t, "no shapes")
	w.decide(7, most)
	w.forget(4)
	w.prepare(5, api.Part{Inserts: []api.Insert{insert(c, 9, 9)}, Erases: []api.Erase{erase(b, 1, 0)}})
	w.setMark(7)
	w.decide(8, 77)
	w.opened(t, "records of all kinds")
}

// The first four numbers at their edges.
func TestOpenHead(t *testing.T) {
	for what, head := range map[string]func(w *world){
		"all at the end": func(w *world) {
			w.generation, w.next, w.through, w.mark = math.MaxInt64, math.MaxInt64, most, most
		},
		"a mark as through": func(w *world) { w.mark = w.through },
		"no mark":           func(w *world) { w.mark = 0 },
		"the last number":   func(w *world) { w.segments[0].files[0].number = math.MaxInt64 - 1; w.next = math.MaxInt64 },
		"number 0":          func(w *world) { w.segments[0].files[0].number = 0 },
		"generation 0":      func(w *world) { w.generation = 0 },
	} {
		w := full(t)
		head(w)
		w.manifest = w.told()
		w.opened(t, what)
	}
}

// Whatever in a manifest can't be.
func TestOpenCant(t *testing.T) {
	type breaking func(w *world)
	loose := func(l ...api.Version) breaking {
		return func(w *world) { w.segments[0].loose = l }
	}
	waits := func(p api.Part) breaking {
		return func(w *world) { w.prepared[4] = p }
	}
	erased := func(id api.RowId, epoch uint64) breaking {
		return func(w *world) { w.segments[0].erased = map[api.RowId]uint64{id: epoch} }
	}
	file := func(l ...api.Version) breaking {
		return func(w *world) { w.segments[1].files[0].bytes = fileOf(t, b, l...) }
	}
	for what, broken := range map[string]breaking{
		"a generation of 2^63":      func(w *world) { w.generation = 1 << 63 },
		"the greatest generation":   func(w *world) { w.generation = most },
		"a next number of 2^63":     func(w *world) { w.next = 1 << 63 },
		"the greatest next number":  func(w *world) { w.next = most },
		"a mark above through":      func(w *world) { w.mark = 7 },
		"a number that is next":     func(w *world) { w.next = 11 },
		"a number above next":       func(w *world) { w.next = 6 },
		"a number of no file":       func(w *world) { w.segments[2].files = []written{{number: 3}} },
		"a number twice":            func(w *world) { w.segments[0].files[1].number = 11 },
		"a number twice in all":     func(w *world) { w.segments[1].files[0] = w.segments[0].files[0] },
		"nobody's name":             loose(ver(a, 0, 0, 1, 0)),
		"a name above through":      loose(ver(a, 7, 0, 1, 0)),
		"the greatest name":         loose(ver(a, most, 0, 1, 0)),
		"deleted at its epoch":      loose(ver(a, 4, 0, 1, 4)),
		"deleted ahead of it":       loose(ver(a, 4, 0, 1, 3)),
		"deleted above through":     loose(ver(a, 4, 0, 1, 7)),
		"deleted at the last":       loose(ver(a, 4, 0, 1, most)),
		"a loose name twice":        loose(ver(a, 4, 0, 1, 0), ver(a, 4, 0, 1, 0)),
		"loose names fall":          loose(ver(a, 4, 1, 1, 0), ver(a, 4, 0, 1, 0)),
		"loose epochs fall":         loose(ver(a, 5, 0, 1, 0), ver(a, 4, 9, 1, 0)),
		"a name of a container":     loose(ver(a, 3, 0, 5, 0)),
		"a name of the second":      loose(ver(a, 2, 7, 1, 0)),
		"two values of one column":  loose(api.Version{Id: name(4, 0), Row: row(2, 1)}),
		"no value":                  loose(api.Version{Id: name(4, 0)}),
		"a file's name at epoch 7":  file(ver(b, 7, 0, 1, 0)),
		"a file's deleted at 7":     file(ver(b, 6, 0, 1, 7)),
		"no version in a file":      file(),
		"other columns":             func(w *world) { w.segments[1].files[0].bytes = fileAs(t, 1, []int{0}, ver(a, 1, 0, 1, 0)) },
		"another sort":              func(w *world) { w.segments[1].files[0].bytes = fileAs(t, 2, []int{0, 1}, ver(b, 1, 0, 1, 0)) },
		"less of a sort":            func(w *world) { w.segments[1].files[0].bytes = fileAs(t, 2, []int{1}, ver(b, 1, 0, 1, 0)) },
		"no sort":                   func(w *world) { w.segments[1].files[0].bytes = fileAs(t, 2, nil, ver(b, 1, 0, 1, 0)) },
		"an empty file":             func(w *world) { w.segments[1].files[0].bytes = nil },
		"a file that is cut":        func(w *world) { f := &w.segments[1].files[0]; f.bytes = f.bytes[:len(f.bytes)-1] },
		"a byte behind a file":      func(w *world) { f := &w.segments[1].files[0]; f.bytes = append(f.bytes, 0) },
		"a name in two files":       func(w *world) { w.segments[0].files[1].bytes = fileOf(t, a, ver(a, 3, 0, 5, 0)) },
		"erased, in no container":   erased(name(3, 1), 5),
		"erased, and loose":         erased(name(2, 6), 5),
		"erased, deleted there":     erased(name(1, 1), 5),
		"erased, as deleted there":  erased(name(1, 1), 4),
		"erased at its epoch":       erased(name(3, 0), 3),
		"erased ahead of it":        erased(name(3, 0), 2),
		"erased at 0":               erased(name(3, 0), 0),
		"erased above through":      erased(name(3, 0), 7),
		"erased at the last":        erased(name(3, 0), most),
		"erased in another segment": func(w *world) { w.segments[2].erased = map[api.RowId]uint64{name(3, 0): 5} },
		"waits with a bad row":      waits(coming(api.Insert{At: a, Ver: api.Version{Row: row(2, 1)}})),
		"waits without a row":       waits(coming(api.Insert{At: a})),
		"waits with one twice":      waits(coming(insert(a, 1, 1), insert(b, 1, 1), insert(a, 1, 2))),
		"waits to erase twice":      waits(going(erase(a, 3, 0), erase(b, 3, 0), erase(a, 3, 0))),
	} {
		w := full(t)
		if strings.Contains(what, "epoch 7") || strings.Contains(what, "at 7") {
			w.segments[1].erased = nil
		}
		broken(w)
		w.manifest = w.told()
		m := w.image()
		if what == "a number of no file" {
			delete(m, "c3")
		}
		m.refused(t, what)
	}
}

// body takes a manifest apart: what is ahead of a piece of it, and what is behind.
func body(t *testing.T, manifest, piece []byte) ([]byte, []byte) {
	t.Helper()
	all := manifest[8 : len(manifest)-4]
	i := strings.Index(string(all), string(piece))
	if i < 0 || i != strings.LastIndex(string(all), string(piece)) {
		t.Fatalf("%x is not just once in %x", piece, all)
	}
	return all[:i], all[i+len(piece):]
}

// What no model would write: orders that do not rise, places of no shapes, rows that are none.
func TestOpenForms(t *testing.T) {
	w := full(t)
	swap := func(what string, was, is []byte) {
		t.Helper()
		ahead, behind := body(t, w.manifest, was)
		m := w.image()
		m["manifest"] = framed(slices.Concat(ahead, is, behind))
		m.refused(t, what)
	}
	erased := func(ids ...api.RowId) []byte {
		return listed(ids, func(id api.RowId) []byte { return slices.Concat(nameBytes(id), long(w.segments[0].erased[id])) })
	}
	was := erased(name(1, 0), name(2, 7))
	swap("P11.2: erased names fall", was, erased(name(2, 7), name(1, 0)))
	swap("P11.2: an erased name twice", was, erased(name(1, 0), name(1, 0)))
	swap("P11.2: one more erased than said", was, erased(name(1, 0), name(2, 7), name(3, 0))[1:])
	waits := func(txns ...uint64) []byte {
		return listed(txns, func(txn uint64) []byte { return slices.Concat(long(txn), partBytes(w.shapes, w.prepared[txn])) })
	}
	was = waits(0, 4, most)
	swap("P11.2: prepared ones fall", was, waits(4, 0, most))
	swap("P11.2: prepared ones fall at the end", was, waits(0, most, 4))
	swap("P11.2: a prepared one twice", was, waits(0, 4, 4, most))
	swap("P11.2: fewer than said", was, append(varOf(4), waits(0, 4, most)[1:]...))
	swap("P11.2: far fewer than said", was, append([]byte{255, 0, 0, 0, 0, 255, 255, 255, 255}, waits(0, 4, most)[1:]...))
	swap("P11.2: a count in too many bytes", was, append([]byte{253, 0, 3}, waits(0, 4, most)[1:]...))
	swap("P11.2: nothing said", was, nil)
	swap("P11.2: something behind", was, append(was, 0))

	was = slices.Concat(varOf(2), word(math.MaxUint32), rowBytes(row(8, 8)))
	swap("P11.2: an insert into segment 3 of 3", was, append(varOf(3), was[1:]...))
	swap("P11.2: an insert far behind", was, append([]byte{255, 255, 255, 255, 255, 255, 255, 255, 255}, was[1:]...))
	swap("P11.2: a segment in too many bytes", was, append([]byte{253, 0, 2}, was[1:]...))
	swap("P11.2: an insert without a row", was, append(was[:5:5], 0))
	swap("P11.2: a row of 17 values", was, append(was[:5:5], rowBytes(row(17, 8))...))
	swap("P11.2: a row of another shape", was, append(was[:5:5], rowBytes(row(7, 8))...))
	was = slices.Concat(varOf(2), nameBytes(name(77, 0)))
	swap("P11.2: an erase in segment 3 of 3", was, append(varOf(3), was[1:]...))

	was = versionBytes(ver(c, 1, 0, 9, 0))
	tall := ver(c, 1, 0, 9, 0)
	tall.Row[1] = value.Text(strings.Repeat("x", 65))
	swap("P11.2: a text of 65 bytes", was, versionBytes(tall))
	tall.Row[1] = api.Value{Kind: 4}
	swap("P11.2: a value of no kind", was, versionBytes(tall))
	long64 := ver(c, 1, 0, 9, 0)
	long64.Row[1] = value.Text(strings.Repeat("x", 64))
	w.segments[2].loose[0] = long64
	w.manifest = w.told()
	w.opened(t, "P11.2: a text of 64 bytes")
}

// A manifest is just one frame, and has just as many segments as there are shapes.
func TestOpenFrame(t *testing.T) {
	w := full(t)
	whole := w.manifest
	for n := range whole {
		m := w.image()
		m["manifest"] = whole[:n]
		m.refused(t, "a manifest that is cut")
	}
	bare := whole[8 : len(whole)-4]
	for n := range bare {
		m := w.image()
		m["manifest"] = framed(bare[:n])
		m.refused(t, "a manifest whose body is cut")
	}
	for what, b := range map[string][]byte{
		"a byte behind":         append(slices.Clone(whole), 0),
		"two frames":            slices.Concat(whole, whole),
		"a byte in the frame":   framed(append(slices.Clone(bare), 0)),
		"a segment more":        framed(slices.Concat(bare[:len(bare)], make([]byte, 3))),
		"no frame":              bare,
		"another log's records": logBytes(markRecord(1)),
	} {
		m := w.image()
		m["manifest"] = b
		m.refused(t, what)
	}
	for i := range whole {
		d := w.image().on(t)
		d.Flip("manifest", i, i%8)
		wantNotOpened(t, "a bit is turned", d, three(), api.ErrStoreForm)
	}
	for _, n := range []int{0, 1, 2} {
		wantNotOpened(t, "fewer shapes", w.image().on(t), three()[:n], api.ErrStoreForm)
		empty := formatted(t, three())
		wantNotOpened(t, "fewer shapes, nothing there", empty, three()[:n], api.ErrStoreForm)
	}
	more := append(three(), api.Shape{At: nowhere, Columns: 1})
	wantNotOpened(t, "one shape more", w.image().on(t), more, api.ErrStoreForm)
	wantNotOpened(t, "one shape more, nothing there", formatted(t, three()), more, api.ErrStoreForm)
	mixed := []api.Shape{three()[1], three()[0], three()[2]}
	wantNotOpened(t, "the shapes in another order", w.image().on(t), mixed, api.ErrStoreForm)
}

func TestOpenErrors(t *testing.T) {
	d := disk.New(1 << 20)
	wantNotOpened(t, "no file", d, three(), api.ErrStoreWiped)
	wantNotOpened(t, "other files alone", image{"redo.0": nil, "manifest.new": newWorld(three()).manifest}.on(t), three(), api.ErrStoreWiped)
	d.Arm(0)
	d.Append("x", nil)
	wantNotOpened(t, "dead, without a manifest", d, three(), api.ErrDiskDead)
	d = formatted(t, three())
	d.Arm(0)
	d.Append("x", nil)
	wantNotOpened(t, "dead", d, three(), api.ErrDiskDead)
	d = image{"manifest": nil}.on(t)
	d.Arm(0)
	d.Append("x", nil)
	wantNotOpened(t, "dead, and no store's", d, three(), api.ErrDiskDead)
	wantNotOpened(t, "an empty manifest", image{"manifest": nil, "redo.0": nil}.on(t), three(), api.ErrStoreForm)
}

// What is none of the store's is removed, by rising names, ahead of the log.
func TestOpenTidies(t *testing.T) {
	w := full(t)
	w.decide(7, 4)
	left := []string{"!", "C11", "c", "c0", "c011", "c1", "c111", "c12", "c3", "manifest.new", "manifest0", "redo.", "redo.09", "redo.1", "redo.10", "redo.8", "~"}
	all := w.image()
	for _, n := range left {
		all[n] = []byte("left over")
	}
	d := all.on(t)
	steps := d.Steps()
	w.want(t, "P11.2: with files left over", open(t, "with files left over", d, three()))
	wantImage(t, "P11.2: files left over are removed", d, w.image())
	if d.Steps()-steps != len(left)+1 {
		t.Error("P11.2: steps of removing:", d.Steps()-steps)
	}
	for n := range len(left) + 1 {
		d := all.on(t)
		d.Arm(n)
		wantNotOpened(t, "dies", d, three(), api.ErrDiskDead)
		want := w.image()
		for _, x := range left[n:] {
			want[x] = []byte("left over")
		}
		wantImage(t, "P11.2: removed by rising names", d, want)
		w.want(t, "P11.10: it died while it was opened", open(t, "it died while it was opened", d.Crash(nil), three()))
	}
}

// The log's errors come behind the removing.
func TestOpenLog(t *testing.T) {
	w := full(t)
	w.setMark(3)
	for what, c := range map[string]struct {
		log  []byte
		want api.Errno
	}{
		"no log":                     {nil, api.ErrStoreForm},
		"a spoilt log":               {[]byte("123456789012"), api.ErrRedoSpoilt},
		"a record that is none":      {logBytes([]byte{9}), api.ErrStoreForm},
		"a spoilt one behind a good": {append(logBytes(markRecord(3)), "123456789012"...), api.ErrRedoSpoilt},
	} {
		m := w.image()
		m["redo.9"], m["x"] = c.log, []byte("left over")
		want := w.image()
		want["redo.9"] = c.log
		if what == "no log" {
			delete(m, "redo.9")
			delete(want, "redo.9")
		}
		d := m.on(t)
		wantNotOpened(t, what, d, three(), c.want)
		wantImage(t, "P11.2: "+what+": the rest was removed ahead of it", d, want)
	}
	m := w.image()
	m["redo.9"] = append(m["redo.9"], logBytes(markRecord(5))[:10]...)
	d := m.on(t)
	w.want(t, "P11.2: a torn log", open(t, "a torn log", d, three()))
	wantImage(t, "P11.2: what is torn is cut", d, w.image())
	m = w.image()
	m["redo.9"] = framed(slices.Concat(varOf(2), listed([]int{3, 5}, func(n int) []byte {
		return slices.Concat(varOf(9), markRecord(uint64(n)))
	})[1:]))
	if s := open(t, "two records of one frame", m.on(t), three()); s.Mark() != 5 {
		t.Error("P11.2: two records of one frame: the mark is", s.Mark())
	}
}

// Records that are none, or could not have been written there.
func TestOpenRecords(t *testing.T) {
	part := func(p api.Part) []byte { return partBytes(three(), p) }
	good := map[string][][]byte{
		"none":              {},
		"decided, by none":  {decidedRecord(7, 77)},
		"decided, twice":    {decidedRecord(7, 4), decidedRecord(8, 4)},
		"prepared":          {preparedRecord(5, part(api.Part{Inserts: []api.Insert{insert(a, 3, 3)}, Erases: []api.Erase{erase(a, 3, 0), erase(a, 2, 6)}}))},
		"forgotten, again":  {forgottenRecord(4), preparedRecord(4, part(api.Part{})), forgottenRecord(4)},
		"decided, prepared": {decidedRecord(7, 4), preparedRecord(4, part(going(erase(a, 7, 0))))},
		"the mark rises":    {markRecord(3), markRecord(6)},
		"the mark follows":  {decidedRecord(7, 4), markRecord(7)},
	}
	for what, records := range good {
		m := full(t).image()
		m["redo.9"] = logBytes(records...)
		open(t, what, m.on(t), three())
	}
	for what, records := range map[string][][]byte{
		"no byte":                     {{}},
		"kind 0":                      {append([]byte{0}, long(4)...)},
		"kind 5":                      {append([]byte{5}, long(4)...)},
		"kind 255":                    {append([]byte{255}, long(4)...)},
		"prepared, cut":               {preparedRecord(5, []byte{0})},
		"prepared, nothing":           {{1}},
		"prepared, more":              {preparedRecord(5, []byte{0, 0, 0})},
		"decided, cut":                {decidedRecord(7, 4)[:16]},
		"decided, more":               {append(decidedRecord(7, 4), 0)},
		"forgotten, cut":              {forgottenRecord(4)[:8]},
		"forgotten, more":             {append(forgottenRecord(4), 0)},
		"a mark, cut":                 {markRecord(3)[:8]},
		"a mark, more":                {append(markRecord(3), 0)},
		"prepared already":            {preparedRecord(4, part(api.Part{}))},
		"prepared twice":              {preparedRecord(5, part(api.Part{})), preparedRecord(5, part(api.Part{}))},
		"prepared, erases none":       {preparedRecord(5, part(going(erase(a, 3, 1))))},
		"prepared, erases deleted":    {preparedRecord(5, part(going(erase(a, 1, 0))))},
		"prepared, deleted in a file": {preparedRecord(5, part(going(erase(a, 1, 1))))},
		"prepared, deleted loose":     {preparedRecord(5, part(going(erase(a, 2, 8))))},
		"prepared, erases twice":      {preparedRecord(5, part(going(erase(a, 3, 0), erase(a, 3, 0))))},
		"prepared, inserts twice":     {preparedRecord(5, part(coming(insert(a, 3, 0), insert(a, 3, 1))))},
		"prepared, a row of two":      {preparedRecord(5, part(coming(api.Insert{At: a, Ver: api.Version{Row: row(2, 1)}})))},
		"prepared, nowhere":           {preparedRecord(5, slices.Concat(varOf(1), varOf(3), word(0), rowBytes(row(1, 1)), varOf(0)))},
		"prepared, a bad row":         {preparedRecord(5, slices.Concat(varOf(1), varOf(0), word(0), []byte{2, 1, 9}, varOf(0)))},
		"decided, as through":         {decidedRecord(6, 4)},
		"decided, two above":          {decidedRecord(8, 4)},
		"decided, 0":                  {decidedRecord(0, 4)},
		"forgotten, and not there":    {forgottenRecord(5)},
		"forgotten twice":             {forgottenRecord(4), forgottenRecord(4)},
		"forgotten, decided":          {decidedRecord(7, 4), forgottenRecord(4)},
		"the mark it was":             {markRecord(2)},
		"a mark below":                {markRecord(1)},
		"a mark of 0":                 {markRecord(0)},
		"a mark above through":        {markRecord(7)},
		"a mark twice":                {markRecord(3), markRecord(3)},
	} {
		for ahead, l := range map[string][][]byte{"": nil, "behind others: ": {preparedRecord(9, part(api.Part{})), forgottenRecord(9)}} {
			w := full(t)
			m := w.image()
			m["redo.9"] = logBytes(append(l, records...)...)
			d := m.on(t)
			wantNotOpened(t, ahead+what, d, three(), api.ErrStoreForm)
			wantImage(t, "P11.2: "+what, d, m)
		}
	}
}

// One container may not be two segments', even if it is of both shapes.
func TestOpenShared(t *testing.T) {
	shapes := []api.Shape{{At: a, Columns: 1, Sort: []int{0}}, {At: b, Columns: 1, Sort: []int{0}}}
	w := newWorld(shapes)
	w.through, w.next = 6, 12
	w.segments[0].files = []written{container(t, a, 4, ver(a, 1, 0, 9, 0))}
	w.segments[1].files = []written{container(t, a, 5, ver(a, 1, 0, 9, 0))}
	w.manifest = w.told()
	w.opened(t, "one name in two segments")
	w.segments[1].files[0].number = 4
	w.manifest = w.told()
	wantNotOpened(t, "one container in two segments", w.image().on(t), shapes, api.ErrStoreForm)
}

// A place behind the shapes is no segment, also if there is one of nothing but zeros.
func TestOpenPlace(t *testing.T) {
	at := api.Segment{}
	for what, p := range map[string][]byte{
		"an insert": slices.Concat(varOf(1), varOf(1), word(0), rowBytes(row(1, 1)), varOf(0)),
		"an erase":  slices.Concat(varOf(0), varOf(1), varOf(1), nameBytes(name(1, 0))),
	} {
		w := newWorld(one())
		w.prepare(1, coming(insert(at, 0, 5)))
		w.decide(1, 1)
		m := w.image()
		m["redo.0"] = append(m["redo.0"], logBytes(preparedRecord(5, p))...)
		wantNotOpened(t, "a record: "+what+" at place 1 of 1", m.on(t), one(), api.ErrStoreForm)
		m = w.image()
		bare := w.manifest[8 : len(w.manifest)-5]
		m["manifest"] = framed(slices.Concat(bare, varOf(1), long(5), p))
		wantNotOpened(t, "prepared: "+what+" at place 1 of 1", m.on(t), one(), api.ErrStoreForm)
	}
	w := newWorld(nil)
	m := w.image()
	m["redo.0"] = logBytes(preparedRecord(5, slices.Concat(varOf(1), varOf(0), word(0), rowBytes(row(1, 1)), varOf(0))))
	wantNotOpened(t, "an insert at place 0 of none", m.on(t), nil, api.ErrStoreForm)
}
