package wire_test

import (
	"math"
	"slices"
	"strconv"
	"strings"
	"testing"

	"hayloft/api"
	"hayloft/value"
)

// Each kind's bytes, by hand.
func TestForms(t *testing.T) {
	const (
		one   = " 00 00 00 00 00 00 00 01"
		two   = " 00 00 00 00 00 00 00 02"
		three = " 00 00 00 00 00 00 00 03"
		all   = " ff ff ff ff ff ff ff ff"
	)
	at := seg(300, 2)
	v := api.Version{Id: id(3, 258), Row: row(value.Bool(true), value.Text("ab")), Deleted: 1}
	const version = three + " 00 00 01 02" + " 07 02 01 01 03 02 61 62" + one
	p := api.Part{Inserts: []api.Insert{insert(at, 258, value.Null())}, Erases: []api.Erase{{At: at, Id: id(3, 258)}, {}}}
	const part = " 01 fd 01 2c 02 00 00 01 02 02 01 00" + " 02 fd 01 2c 02" + three + " 00 00 01 02" + " 00 00 00 00 00 00 00 00 00 00 00 00 00 00"
	for body, m := range map[string]api.Message{
		"01 08 00" + one + two + part:                                      {Kind: api.MsgPrepare, From: 8, Txn: 1, Base: 2, Part: p},
		"01 00 08" + two + one + "0000":                                    {Kind: api.MsgPrepare, To: 8, Txn: 2, Base: 1},
		"02 01 03" + one + "01":                                            {Kind: api.MsgVote, From: 1, To: 3, Txn: 1, Yes: true},
		"02 01 03" + all + "00":                                            {Kind: api.MsgVote, From: 1, To: 3, Txn: math.MaxUint64},
		"03 03 01" + one + two:                                             {Kind: api.MsgDecide, From: 3, To: 1, Epoch: 1, Txn: 2},
		"04 01 03" + one + two:                                             {Kind: api.MsgThrough, From: 1, To: 3, Epoch: 1, Mark: 2},
		"05 03 01" + one + two + "fd012c02":                                {Kind: api.MsgScan, From: 3, To: 1, Ask: 1, Epoch: 2, At: at},
		"06 01 03" + one + "fd012c02 00 01" + version:                      {Kind: api.MsgRows, From: 1, To: 3, Ask: 1, At: at, Versions: []api.Version{v}},
		"06 01 03" + one + "0000 01 00":                                    {Kind: api.MsgRows, From: 1, To: 3, Ask: 1, No: true},
		"07 01 03" + one + two + "01":                                      {Kind: api.MsgHello, From: 1, To: 3, Ask: 1, Epoch: 2, Wiped: true},
		"07 01 03" + two + one + "00":                                      {Kind: api.MsgHello, From: 1, To: 3, Ask: 2, Epoch: 1},
		"08 03 01 08" + one + "fd012c02" + two + three:                     {Kind: api.MsgFetch, From: 3, To: 1, Node: 8, Attempt: 1, At: at, Since: 2, Epoch: 3},
		"09 01 02" + one + "fd012c02" + two + three + all + "01" + version: {Kind: api.MsgCopy, From: 1, To: 2, Attempt: 1, At: at, Since: 2, Epoch: 3, Mark: math.MaxUint64, Versions: []api.Version{v}},
		"0a 01 03" + one + two:                                             {Kind: api.MsgJoined, From: 1, To: 3, Attempt: 1, Epoch: 2},
		"0b 03 01" + one:                                                   {Kind: api.MsgMark, From: 3, To: 1, Mark: 1},
		"0c 03 01" + one:                                                   {Kind: api.MsgProbe, From: 3, To: 1, Ask: 1},
	} {
		wantWritten(t, "kind "+strconv.Itoa(m.Kind), m, unhex(t, body))
	}
}

// A message that has nothing but its kind may be, whatever kind that is; and one with all that it names.
func TestEachKind(t *testing.T) {
	if len(each()) != 12 {
		t.Fatal("not all kinds")
	}
	for i, m := range each() {
		if m.Kind != i+1 {
			t.Error("kinds:", m.Kind)
		}
		wantWritten(t, "all of kind "+strconv.Itoa(m.Kind), m, modelOf(m))
		none := api.Message{Kind: m.Kind}
		wantWritten(t, "none of kind "+strconv.Itoa(m.Kind), none, modelOf(none))
	}
}

func TestNoKind(t *testing.T) {
	for _, kind := range []int{0, 13, 14, 255, 256, 256 + api.MsgMark, 512 + api.MsgProbe, 1<<32 + 1, -1, -256 + api.MsgMark, -255, math.MaxInt, math.MinInt, math.MinInt + api.MsgVote} {
		wantRefused(t, "kind "+strconv.Itoa(kind), api.Message{Kind: kind})
	}
}

// fields is what a message may have beside its head, each part of it that may be zero on its own.
func fields() map[string]func(*api.Message) {
	return map[string]func(*api.Message){
		"Txn":     func(m *api.Message) { m.Txn = 1 },
		"Base":    func(m *api.Message) { m.Base = 1 << 63 },
		"Epoch":   func(m *api.Message) { m.Epoch = 1 << 32 },
		"Since":   func(m *api.Message) { m.Since = math.MaxUint64 },
		"Mark":    func(m *api.Message) { m.Mark = 2 },
		"Ask":     func(m *api.Message) { m.Ask = 256 },
		"Attempt": func(m *api.Message) { m.Attempt = 3 },
		"Node":    func(m *api.Message) { m.Node = 1 },
		"Yes":     func(m *api.Message) { m.Yes = true },
		"No":      func(m *api.Message) { m.No = true },
		"Wiped":   func(m *api.Message) { m.Wiped = true },
		"At":      func(m *api.Message) { m.At.Proj = 1 },
		"At ":     func(m *api.Message) { m.At.Seg = 1 },
		"Part":    func(m *api.Message) { m.Part.Inserts = []api.Insert{{}} },
		"Part ":   func(m *api.Message) { m.Part.Erases = []api.Erase{{}} },
		"Versions": func(m *api.Message) {
			m.Versions = []api.Version{{}}
		},
	}
}

// named is what each kind names.
func named() map[int]string {
	return map[int]string{
		api.MsgPrepare: "Txn Base Part", api.MsgVote: "Txn Yes", api.MsgDecide: "Epoch Txn", api.MsgThrough: "Epoch Mark", api.MsgScan: "Ask Epoch At", api.MsgRows: "Ask At No Versions",
		api.MsgHello: "Ask Epoch Wiped", api.MsgFetch: "Node Attempt At Since Epoch", api.MsgCopy: "Attempt At Since Epoch Mark Versions", api.MsgJoined: "Attempt Epoch", api.MsgMark: "Mark", api.MsgProbe: "Ask",
	}
}

// Whatever a kind names may be there, and nothing else.
func TestFieldsThatAKindNames(t *testing.T) {
	full := each()
	for kind, names := range named() {
		for name, set := range fields() {
			what := "kind " + strconv.Itoa(kind) + " with " + name
			m, all := api.Message{Kind: kind}, full[kind-1]
			set(&m)
			set(&all)
			if slices.Contains(strings.Fields(names), strings.TrimSpace(name)) {
				wantWritten(t, what, m, modelOf(m))
				wantWritten(t, what, all, modelOf(all))
				continue
			}
			wantRefused(t, what, m)
			wantRefused(t, what, all)
		}
	}
}

// R4: an empty list is nothing.
func TestEmptyLists(t *testing.T) {
	for kind := range named() {
		m := api.Message{Kind: kind, Versions: []api.Version{}, Part: api.Part{Inserts: []api.Insert{}, Erases: []api.Erase{}}}
		wantWritten(t, "empty lists of kind "+strconv.Itoa(kind), m, modelOf(api.Message{Kind: kind}))
	}
	none, empty := api.Message{Kind: api.MsgRows, Versions: []api.Version{{}}}, api.Message{Kind: api.MsgRows, Versions: []api.Version{{Row: row()}}}
	wantWritten(t, "a nil row", none, modelOf(none))
	wantWritten(t, "an empty row", empty, modelOf(none))
}

// odd are numbers that no form has.
func odd() []int {
	return []int{-1, -2, -255, -256, -1 << 31, -1 << 32, math.MinInt, math.MaxInt, 1 << 32, 1<<32 + 1, 1 << 62}
}

func TestNodes(t *testing.T) {
	places := map[string]func(*api.Message, int){
		"From": func(m *api.Message, n int) { m.From = n },
		"To":   func(m *api.Message, n int) { m.To = n },
		"Node": func(m *api.Message, n int) { m.Node = n },
	}
	for _, m := range each() {
		for name, set := range places {
			if name == "Node" && m.Kind != api.MsgFetch {
				continue
			}
			what := "kind " + strconv.Itoa(m.Kind) + " with " + name + " "
			for n := range api.MaxNodes + 1 {
				set(&m, n)
				wantWritten(t, what+strconv.Itoa(n), m, modelOf(m))
			}
			bad := m
			for _, n := range append(odd(), 9, 10, 255, 256, 257, 264) {
				set(&bad, n)
				wantRefused(t, what+strconv.Itoa(n), bad)
			}
		}
	}
}

// A segment's numbers, wherever one stands.
func TestSegments(t *testing.T) {
	with := map[string]func(api.Segment) api.Message{
		"scan":   func(at api.Segment) api.Message { return api.Message{Kind: api.MsgScan, At: at} },
		"rows":   func(at api.Segment) api.Message { return api.Message{Kind: api.MsgRows, At: at} },
		"fetch":  func(at api.Segment) api.Message { return api.Message{Kind: api.MsgFetch, At: at} },
		"copy":   func(at api.Segment) api.Message { return api.Message{Kind: api.MsgCopy, At: at} },
		"insert": func(at api.Segment) api.Message { return prepare([]api.Insert{{}, {At: at}}, nil) },
		"erase":  func(at api.Segment) api.Message { return prepare(nil, []api.Erase{{}, {At: at}}) },
	}
	for what, message := range with {
		for _, n := range []int{0, 1, 252, 253, 254, 255, 256, 65535, 65536, math.MaxInt32 - 1, math.MaxInt32} {
			for _, at := range []api.Segment{seg(n, 0), seg(0, n), seg(n, n)} {
				m := message(at)
				wantWritten(t, what, m, modelOf(m))
			}
		}
		for _, n := range append(odd(), math.MaxInt32+1, math.MaxUint32) {
			for _, at := range []api.Segment{seg(n, 0), seg(0, n), seg(n, n)} {
				wantRefused(t, what+" of "+strconv.Itoa(n), message(at))
			}
		}
	}
}

// Longs and Words are any numbers.
func TestNumbers(t *testing.T) {
	for _, n := range []uint64{0, 1, 255, 256, 1 << 31, 1 << 32, 1 << 63, math.MaxUint64} {
		for _, m := range each() {
			for _, p := range []*uint64{&m.Txn, &m.Base, &m.Epoch, &m.Since, &m.Mark, &m.Ask, &m.Attempt} {
				if *p != 0 {
					*p = n
				}
			}
			wantWritten(t, "numbers", m, modelOf(m))
		}
		v := api.Version{Id: id(n, uint32(n)), Deleted: n}
		m := api.Message{Kind: api.MsgCopy, Versions: []api.Version{v, {Deleted: n}, {Id: id(n, 0)}, {Id: id(0, uint32(n))}}}
		wantWritten(t, "versions", m, modelOf(m))
		m = prepare([]api.Insert{insert(seg(0, 0), uint32(n))}, []api.Erase{{Id: v.Id}})
		wantWritten(t, "a part", m, modelOf(m))
	}
}

// A version that comes has neither an epoch nor an end yet, be it the first one or a later one.
func TestInsertsAreNew(t *testing.T) {
	for _, n := range []uint64{1, 2, 256, 1 << 32, 1 << 63, math.MaxUint64} {
		for _, v := range []api.Version{{Id: id(n, 0)}, {Deleted: n}, {Id: id(n, 1), Row: row(value.Int(1)), Deleted: n}} {
			bad, good := api.Insert{Ver: v}, insert(seg(1, 1), 1, value.Int(1))
			for _, l := range [][]api.Insert{{bad}, {good, bad}, {bad, good}, {good, bad, good}} {
				wantRefused(t, "an insert of an epoch", prepare(l, nil))
			}
		}
	}
}

// badRows are rows that can't be written.
func badRows() map[string][]api.Value {
	return map[string][]api.Value{
		"kind 9":          row(api.Value{Kind: 9}),
		"kind -1":         row(api.Value{Kind: -1}),
		"kind 256":        row(value.Int(1), api.Value{Kind: 256}),
		"a long text":     row(value.Text(strings.Repeat("a", api.MaxText+1))),
		"a null of 1":     row(api.Value{Int: 1}),
		"an int that is":  row(api.Value{Kind: api.KindInt, Bool: true}),
		"many values":     make([]api.Value, 2*api.MaxColumns+1),
		"far more values": make([]api.Value, 1000),
	}
}

// goodRows are some that can.
func goodRows() [][]api.Value {
	return [][]api.Value{
		nil, row(value.Null()), row(value.Bool(false), value.Bool(true)), row(value.Int(math.MinInt64), value.Int(-1), value.Int(math.MaxInt64)), row(value.Text(""), value.Text("\x00\xff")),
		make([]api.Value, 2*api.MaxColumns), slices.Repeat(row(value.Text(strings.Repeat("a", api.MaxText))), 2*api.MaxColumns), slices.Repeat(row(value.Text(strings.Repeat("b", 61))), 4),
	}
}

func TestRows(t *testing.T) {
	for _, r := range goodRows() {
		l := []api.Version{{Row: r}, {}, {Row: r}}
		for _, m := range []api.Message{{Kind: api.MsgRows, Versions: l}, {Kind: api.MsgCopy, Versions: l}, prepare([]api.Insert{insert(seg(1, 2), 3, r...), {}, insert(seg(4, 5), 6, r...)}, nil)} {
			wantWritten(t, "a row", m, modelOf(m))
		}
	}
	for what, r := range badRows() {
		good, bad := api.Version{Row: row(value.Int(1))}, api.Version{Row: r}
		for _, l := range [][]api.Version{{bad}, {good, bad}, {bad, good}} {
			wantRefused(t, "rows with "+what, api.Message{Kind: api.MsgRows, Versions: l})
			wantRefused(t, "a copy with "+what, api.Message{Kind: api.MsgCopy, Versions: l})
		}
		for _, l := range [][]api.Insert{{{Ver: bad}}, {{Ver: good}, {Ver: bad}}, {{Ver: bad}, {Ver: good}}} {
			wantRefused(t, "an insert of "+what, prepare(l, nil))
			wantRefused(t, "an insert of "+what, prepare(l, []api.Erase{{}}))
		}
	}
}

// Lists whose count needs more than a byte.
func TestManyThings(t *testing.T) {
	for _, n := range []int{1, 252, 253, 254, 65535, 65536} {
		l := make([]api.Version, n)
		l[n-1] = api.Version{Id: id(1, 2), Row: row(value.Int(3)), Deleted: 4}
		erases := make([]api.Erase, n)
		erases[n-1] = api.Erase{At: seg(1, 2), Id: id(3, 4)}
		inserts := make([]api.Insert, n)
		inserts[n-1] = insert(seg(1, 2), 3, value.Int(4))
		for _, m := range []api.Message{{Kind: api.MsgRows, Versions: l}, {Kind: api.MsgCopy, Versions: l}, prepare(inserts, nil), prepare(nil, erases), prepare(inserts, erases)} {
			wantWritten(t, strconv.Itoa(n)+" things", m, modelOf(m))
		}
	}
}

// fill is rows that, each with so many bytes beside it, need just that many.
func fill(size, beside int) [][]api.Value {
	long := slices.Repeat(row(value.Text(strings.Repeat("z", api.MaxText))), 2*api.MaxColumns)
	whole := beside + 3 + 1 + len(long)*(2+api.MaxText)
	l := slices.Repeat([][]api.Value{long}, size/whole-1)
	least := beside + 4 // of a row of one text: its bytes, its values, its text's kind and bytes are counted
	for left := size - len(l)*whole; left > 0; {
		n := min(left, least+api.MaxText)
		if rest := left - n; rest > 0 && rest < least {
			n = left - least
		}
		l = append(l, row(value.Text(strings.Repeat("y", n-least))))
		left -= n
	}
	return l
}

// long is a message of a kind that has lists, with a body of so many bytes.
func long(kind, size int) api.Message {
	m := api.Message{Kind: kind}
	size -= len(modelOf(m)) + 2 // a list's count has 3 bytes, not 1
	if kind == api.MsgPrepare {
		m.Part.Erases = make([]api.Erase, 100)
		for _, r := range fill(size-100*14, 6) {
			m.Part.Inserts = append(m.Part.Inserts, insert(seg(0, 0), 0, r...))
		}
		return m
	}
	for _, r := range fill(size, 20) {
		m.Versions = append(m.Versions, api.Version{Row: r})
	}
	return m
}

// A body of MaxFrame bytes may be, one of a byte more not.
func TestLongest(t *testing.T) {
	for _, kind := range []int{api.MsgPrepare, api.MsgRows, api.MsgCopy} {
		for more := -1; more <= 1; more++ {
			m := long(kind, api.MaxFrame+more)
			body := modelOf(m)
			if len(body) != api.MaxFrame+more {
				t.Fatal("not as long as it must be:", len(body))
			}
			wantLongest(t, m, body)
		}
	}
}

// wantLongest is as wantWritten, and as wantRefused, of so long a message.
func wantLongest(t *testing.T, m api.Message, body []byte) {
	t.Helper()
	if len(body) > api.MaxFrame {
		wantRefused(t, "a body that is too long", m)
		wantNone(t, "a body that is too long", framed(body))
		return
	}
	wantWritten(t, "the longest body", m, body)
}

// What is far too long is refused likewise, and whatever else is wrong with it.
func TestFarTooLong(t *testing.T) {
	big := slices.Repeat(row(value.Text(strings.Repeat("z", api.MaxText))), 16)
	l := slices.Repeat([]api.Version{{Row: big}}, 100000)
	wantRefused(t, "far too long", api.Message{Kind: api.MsgRows, Versions: l})
	wantRefused(t, "far too long", api.Message{Kind: api.MsgCopy, Versions: l})
	inserts := make([]api.Insert, len(l))
	for i := range inserts {
		inserts[i].Ver.Row = big
	}
	wantRefused(t, "far too long", prepare(inserts, nil))
	wantRefused(t, "far too long", prepare(nil, make([]api.Erase, 2000000)))
}
