package coord_test

import (
	"slices"

	"hayloft/api"
	"hayloft/catalog"
	"hayloft/expr"
	"hayloft/plan"
	"hayloft/value"
)

// known is what is known for ever, as the words of the chapters say it.
type known struct {
	boots     uint64
	begun     uint64 // the number of the last transaction
	undecided bool
	commits   []api.Commit
	members   []bool
	mark      uint64
}

func (k known) last() uint64 { return uint64(len(k.commits)) }

func alikeKnown(a, b known) bool {
	sameCommits := slices.EqualFunc(a.commits, b.commits, func(x, y api.Commit) bool {
		return x.Txn == y.Txn && x.Epoch == y.Epoch && alikeOps(x.Ops, y.Ops)
	})
	return sameCommits && slices.Equal(a.members, b.members) && a.mark == b.mark
}

// world is what a coordinator must tell, as the chapter's words say it.
type world struct {
	cat     api.Catalog
	log     known
	trail   []known // what the log has come to by each record of this call
	noRoom  bool
	numbers uint64
	txn     *pending // nil, if there is none
	queries []*pending
	told    []uint64
	marks   []uint64
	probes  []ask // a number 0: there is none
	tries   []ask
}

// pending is a transaction, or a query, that reads, or, of a transaction, prepares.
type pending struct {
	number   uint64 // of a transaction, in the log
	to       int
	ops      []api.Op
	query    api.Query
	pick     int
	ask      uint64
	epoch    uint64
	places   []api.Segment
	got      map[api.Segment][]api.Version
	prepares bool
	parts    []api.Part
	voted    map[int]bool
}

// ask is a probe (since: its floor), or an attempt.
type ask struct {
	number, since, upto uint64
}

func newWorld(cat api.Catalog) *world {
	w := &world{cat: cat, log: known{members: make([]bool, cat.Nodes)}}
	for n := range cat.Nodes {
		w.log.members[n] = true
	}
	return w.anew(w.log)
}

// anew is what it is when it is opened on a log. There is room.
func (w *world) anew(log known) *world {
	log.boots++
	log.undecided = false
	n := w.cat.Nodes
	return &world{cat: w.cat, log: log, told: make([]uint64, n), marks: make([]uint64, n), probes: make([]ask, n), tries: make([]ask, n)}
}

// record adds one to the log; false, if there is no room.
func (w *world) record(change func(k *known)) bool {
	if w.noRoom {
		return false
	}
	k := w.log
	k.members = slices.Clone(k.members)
	change(&k)
	w.log = k
	w.trail = append(w.trail, k)
	return true
}

func (w *world) abortRecord() bool {
	return !w.log.undecided || w.record(func(k *known) { k.undecided = false })
}

func (w *world) number() uint64 {
	w.numbers++
	return w.log.boots%(1<<32)*(1<<32) + w.numbers
}

func (w *world) tooManyOut() bool {
	out := 0
	for _, is := range w.log.members {
		if !is {
			out++
		}
	}
	return out > w.cat.K
}

// toMembers is a message to each one.
func (w *world) toMembers(x api.Message) []api.Message {
	var l []api.Message
	for n, is := range w.log.members {
		if is {
			x.To = n
			l = append(l, x)
		}
	}
	return l
}

func (w *world) isMine(o api.Op) bool {
	if o.Table < 0 || o.Table > len(w.cat.Tables)-1 {
		return false
	}
	t := w.cat.Tables[o.Table]
	if o.Kind == api.OpDelete {
		return len(o.Rows) == 0 && expr.Check(t.Columns, o.Where) == api.OK
	}
	for _, r := range o.Rows {
		if value.Row(t, r) != api.OK {
			return false
		}
	}
	return o.Kind == api.OpInsert && len(o.Rows) > 0 && len(o.Where) == 0
}

func (w *world) areMine(ops []api.Op) bool {
	many := 0
	for _, o := range ops {
		if !w.isMine(o) {
			return false
		}
		many += len(o.Rows)
	}
	return len(ops) >= 1 && len(ops) <= api.MaxOps && many <= api.MaxInsert
}

func (w *world) submit(to int, ops []api.Op, pick int) heard {
	switch {
	case !w.areMine(ops):
		return replied(failed(to, api.ErrInvalid))
	case w.txn != nil:
		return replied(failed(to, api.ErrBusy))
	case w.tooManyOut():
		return replied(failed(to, api.ErrUnavailable))
	case !w.abortRecord() || !w.record(func(k *known) { k.begun++; k.undecided = true }):
		return replied(failed(to, api.ErrFull))
	}
	p := &pending{number: w.log.begun, to: to, ops: ops, pick: pick, epoch: w.log.last()}
	w.txn = p
	for table := range w.cat.Tables {
		if slices.ContainsFunc(ops, func(o api.Op) bool { return o.Kind == api.OpDelete && o.Table == table }) {
			p.places = append(p.places, w.needs(table, pick)...)
		}
	}
	if p.places == nil {
		return w.prepares()
	}
	p.ask, p.got = w.number(), map[api.Segment][]api.Version{}
	return said(w.scans(p)...)
}

func (w *world) needs(table, pick int) []api.Segment {
	way, e := plan.Choose(w.cat, table, pick)
	if e != api.OK {
		panic("a table has no way")
	}
	return plan.Needs(w.cat, way)
}

// scans asks what is missing.
func (w *world) scans(p *pending) []api.Message {
	var l []api.Message
	for _, place := range p.places {
		if _, got := p.got[place]; got {
			continue
		}
		for _, n := range catalog.Nodes(w.cat, place) {
			if w.log.members[n] {
				l = append(l, scan(n, p.ask, p.epoch, place))
			}
		}
	}
	return l
}

// read is a table, as a pending one has read it.
func (w *world) read(p *pending, table int) []api.Version {
	way, _ := plan.Choose(w.cat, table, p.pick)
	var l [][]api.Version
	for _, place := range plan.Needs(w.cat, way) {
		l = append(l, p.got[place])
	}
	return plan.Full(w.cat, way, l, p.epoch)
}

func (w *world) prepares() heard {
	p := w.txn
	var inserts, erases []catalog.Full
	for _, o := range p.ops {
		for _, r := range o.Rows {
			inserts = append(inserts, catalog.Full{Table: o.Table, Id: name(0, uint32(len(inserts))), Row: r})
		}
	}
	for table := range w.cat.Tables {
		deletes := slices.DeleteFunc(slices.Clone(p.ops), func(o api.Op) bool { return o.Kind != api.OpDelete || o.Table != table })
		if len(deletes) == 0 {
			continue
		}
		for _, v := range w.read(p, table) {
			if slices.ContainsFunc(deletes, func(o api.Op) bool { return expr.All(o.Where, v.Row) }) {
				erases = append(erases, catalog.Full{Table: table, Id: v.Id, Row: v.Row})
			}
		}
	}
	p.prepares, p.voted, p.parts = true, map[int]bool{}, catalog.Parts(w.cat, inserts, erases)
	return said(w.prepareAgain()...)
}

func (w *world) prepareAgain() []api.Message {
	l := w.toMembers(api.Message{Kind: api.MsgPrepare, Txn: w.txn.number, Base: w.log.last()})
	for i := range l {
		l[i].Part = w.txn.parts[l[i].To]
	}
	return slices.DeleteFunc(l, func(x api.Message) bool { return w.txn.voted[x.To] })
}

// commits is what is told where to commit is looked for.
func (w *world) commits() heard {
	p := w.txn
	if p == nil || !p.prepares || w.tooManyOut() {
		return silence()
	}
	for n, is := range w.log.members {
		if is && !p.voted[n] {
			return silence()
		}
	}
	next := w.log.last() + 1
	if !w.record(func(k *known) {
		k.undecided = false
		k.commits = append(slices.Clone(k.commits), api.Commit{Txn: p.number, Epoch: next, Ops: p.ops})
	}) {
		return w.aborts(api.ErrFull)
	}
	w.txn = nil
	return heard{[]api.Reply{done(p.to, next)}, w.toMembers(api.Message{Kind: api.MsgDecide, Epoch: next, Txn: p.number})}
}

func (w *world) aborts(code api.Errno) heard {
	to := w.txn.to
	w.abortRecord()
	w.txn = nil
	return replied(failed(to, code))
}

func (w *world) ask(to int, q api.Query, epoch uint64, pick int) heard {
	if plan.Check(w.cat, q) != api.OK {
		return replied(refused(to, api.ErrInvalid))
	}
	if epoch > w.log.last() {
		return replied(refused(to, api.ErrNotClosed))
	}
	if epoch == 0 {
		epoch = w.log.last()
	}
	if epoch < w.log.mark {
		return replied(refused(to, api.ErrPurged))
	}
	if w.tooManyOut() {
		return replied(refused(to, api.ErrUnavailable))
	}
	p := &pending{to: to, query: q, pick: pick, epoch: epoch, ask: w.number(), got: map[api.Segment][]api.Version{}}
	p.places = w.needs(q.Table, pick)
	if q.Join && q.Right != q.Table {
		p.places = append(p.places, w.needs(q.Right, pick)...)
	}
	w.queries = append(w.queries, p)
	return said(w.scans(p)...)
}

func (w *world) take(x api.Message) heard {
	if x.To != w.cat.Nodes || x.From < 0 || x.From > w.cat.Nodes-1 {
		return silence()
	}
	is := w.log.members[x.From]
	switch x.Kind {
	case api.MsgVote:
		return w.vote(x)
	case api.MsgRows:
		return w.rows(x)
	case api.MsgThrough:
		if is {
			w.told[x.From], w.marks[x.From] = max(w.told[x.From], x.Epoch), max(w.marks[x.From], x.Mark)
		}
	case api.MsgHello:
		if is {
			return w.hello(x)
		}
		return said(w.fetches(x.From, x.Epoch)...)
	case api.MsgJoined:
		mine := w.tries[x.From].number != 0 && w.tries[x.From].number == x.Attempt
		if !is && mine && x.Epoch == w.log.last() && w.txn == nil && w.record(func(k *known) { k.members[x.From] = true }) {
			w.told[x.From], w.tries[x.From] = x.Epoch, ask{}
		}
	}
	return silence()
}

func (w *world) vote(x api.Message) heard {
	p := w.txn
	if p == nil || !p.prepares || p.number != x.Txn || !w.log.members[x.From] {
		return silence()
	}
	if !x.Yes {
		return w.aborts(api.ErrFull)
	}
	if p.voted[x.From] {
		return silence()
	}
	p.voted[x.From] = true
	return w.commits()
}

func (w *world) rows(x api.Message) heard {
	if x.No || !w.log.members[x.From] {
		return silence()
	}
	if p := w.txn; p != nil && !p.prepares && p.hears(x) && len(p.got) == len(p.places) {
		return w.prepares()
	}
	for i, p := range w.queries {
		if p.hears(x) && len(p.got) == len(p.places) {
			w.queries = slices.Delete(slices.Clone(w.queries), i, i+1)
			return replied(w.answer(p))
		}
	}
	return silence()
}

// hears takes rows, if they are what is asked for and missing.
func (p *pending) hears(x api.Message) bool {
	_, got := p.got[x.At]
	if x.Ask != p.ask || got || !slices.Contains(p.places, x.At) {
		return false
	}
	p.got[x.At] = x.Versions
	return true
}

func (w *world) answer(p *pending) api.Reply {
	var sides [2][][]api.Value
	for i, table := range []int{p.query.Table, p.query.Right} {
		for _, v := range w.read(p, table) {
			sides[i] = append(sides[i], v.Row)
		}
	}
	l, e := plan.Answer(p.query, sides[0], sides[1])
	if e != api.OK {
		return refused(p.to, api.ErrFull)
	}
	return answered(p.to, p.epoch, l...)
}

func (w *world) hello(x api.Message) heard {
	n := x.From
	open := w.probes[n]
	if open.number != 0 && open.number == x.Ask {
		if !x.Wiped && x.Epoch >= open.since {
			w.probes[n], w.told[n] = ask{}, max(w.told[n], x.Epoch)
			return silence()
		}
		if !w.record(func(k *known) { k.members[n] = false }) {
			return silence()
		}
		w.probes[n], w.told[n], w.marks[n] = ask{}, 0, 0
		return w.commits()
	}
	if !x.Wiped && x.Epoch >= w.told[n] {
		w.told[n] = x.Epoch
		return silence()
	}
	if open.number == 0 {
		w.probes[n] = ask{number: w.number(), since: w.told[n]}
	}
	return said(probe(n, w.probes[n].number))
}

func (w *world) fetches(n int, since uint64) []api.Message {
	last := w.log.last()
	if since < w.log.mark || since > last {
		since = 0
	}
	a := w.tries[n]
	if a.number == 0 || a.since != since || a.upto != last {
		a = ask{w.number(), since, last}
		w.tries[n] = a
	}
	var l []api.Message
	for _, place := range catalog.Of(w.cat, n) {
		for _, giver := range catalog.Nodes(w.cat, place) {
			if giver != n && w.log.members[giver] {
				l = append(l, fetch(giver, n, a.number, place, since, last))
			}
		}
	}
	return l
}

func (w *world) tick() heard {
	var h heard
	var left []*pending
	for _, p := range w.queries {
		switch {
		case p.epoch < w.log.mark:
			h.replies = append(h.replies, refused(p.to, api.ErrPurged))
		case w.tooManyOut():
			h.replies = append(h.replies, refused(p.to, api.ErrUnavailable))
		default:
			left = append(left, p)
		}
	}
	w.queries = left
	for _, x := range w.toMembers(api.Message{}) {
		h.messages = append(h.messages, w.reminds(x.To)...)
	}
	if p := w.txn; p != nil && p.prepares {
		h.messages = append(h.messages, w.prepareAgain()...)
	} else if p != nil {
		h.messages = append(h.messages, w.scans(p)...)
	}
	for _, p := range left {
		h.messages = append(h.messages, w.scans(p)...)
	}
	return h
}

func (w *world) reminds(n int) []api.Message {
	var l []api.Message
	if w.marks[n] < w.log.mark {
		l = append(l, markTo(n, w.log.mark))
	}
	for _, x := range w.log.commits {
		if x.Epoch > w.told[n] {
			l = append(l, decide(n, x.Epoch, x.Txn))
		}
	}
	if w.probes[n].number != 0 {
		l = append(l, probe(n, w.probes[n].number))
	}
	return l
}

func (w *world) giveUp() heard {
	if w.txn == nil {
		return silence()
	}
	return w.aborts(api.ErrAborted)
}

func (w *world) setMark(epoch uint64) api.Errno {
	switch {
	case epoch < w.log.mark || epoch > w.log.last():
		return api.ErrArg
	case epoch != w.log.mark && !w.record(func(k *known) { k.mark = epoch }):
		return api.ErrDiskFull
	}
	return api.OK
}
