package wire

import (
	"math"

	"hayloft/api"
	"hayloft/codec"
	"hayloft/rows"
)

// mostSegment is the greatest number of a projection, or of a segment of one.
const mostSegment = math.MaxInt32

// pass goes over a message once: it writes it, or it reads it, field by field, in the same order. A field that it writes it takes out of the message, so that what its kind does not name is left in the end.
type pass struct {
	w     *codec.Writer
	r     *codec.Reader // nil: the pass writes
	wrong bool          // of a pass that writes; a reader keeps itself what was amiss
}

func (p *pass) reads() bool { return p.r != nil }

// refuse says that there is no such message.
func (p *pass) refuse() {
	if p.reads() {
		p.r.Fail(api.ErrWireForm)
		return
	}
	p.wrong = true
}

// kind is a message's, which it answers as well. Whether there is such a kind is not asked here.
func (p *pass) kind(n *int) int {
	kind := *n
	p.small(n, math.MaxUint8)
	if p.reads() {
		kind = *n
	}
	return kind
}

// node is the number of a node, or of the coordinator.
func (p *pass) node(n *int) { p.small(n, api.MaxNodes) }

// truth is a bool, as a number.
func (p *pass) truth(is *bool) {
	n := 0
	if *is {
		n = 1
	}
	p.small(&n, 1)
	*is = n == 1
}

// small is a number up to most, in a byte.
func (p *pass) small(n *int, most int) {
	if p.reads() {
		*n = int(p.r.Byte())
	}
	if *n < 0 || *n > most {
		p.refuse()
	}
	if !p.reads() {
		p.w.Byte(byte(*n))
		*n = 0
	}
}

// word is a number in 4 bytes.
func (p *pass) word(n *uint32) {
	if p.reads() {
		*n = p.r.Word()
		return
	}
	p.w.Word(*n)
	*n = 0
}

// longs are numbers in 8 bytes each.
func (p *pass) longs(l ...*uint64) {
	for _, n := range l {
		if p.reads() {
			*n = p.r.Long()
			continue
		}
		p.w.Long(*n)
		*n = 0
	}
}

// place is one of the two numbers of a segment.
func (p *pass) place(n *int) {
	if p.reads() {
		*n = int(p.r.Var(mostSegment))
		return
	}
	if *n < 0 || *n > mostSegment {
		p.refuse()
	}
	p.w.Var(uint64(*n))
	*n = 0
}

func (p *pass) segment(at *api.Segment) {
	p.place(&at.Proj)
	p.place(&at.Seg)
}

func (p *pass) name(id *api.RowId) {
	p.longs(&id.Epoch)
	p.word(&id.Number)
}

// row is a row's bytes, with how many they are ahead of them.
func (p *pass) row(row *[]api.Value) {
	if p.reads() {
		p.readRow(row)
		return
	}
	b, e := rows.Encode(*row)
	if e != api.OK {
		p.refuse()
	}
	p.w.Text(b)
	*row = nil
}

func (p *pass) readRow(row *[]api.Value) {
	b := p.r.Text(api.MaxFrame)
	l, e := rows.Decode(b)
	if e != api.OK {
		p.refuse()
	}
	*row = l
}

func (p *pass) version(v *api.Version) {
	p.name(&v.Id)
	p.row(&v.Row)
	p.longs(&v.Deleted)
}

func (p *pass) part(x *api.Part) {
	list(p, &x.Inserts, (*pass).insert)
	list(p, &x.Erases, (*pass).erase)
}

// insert is a version of an epoch that is not known yet: neither that nor a Deleted is written.
func (p *pass) insert(i *api.Insert) {
	if i.Ver.Id.Epoch != 0 || i.Ver.Deleted != 0 {
		p.refuse()
	}
	p.segment(&i.At)
	p.word(&i.Ver.Id.Number)
	p.row(&i.Ver.Row)
}

func (p *pass) erase(e *api.Erase) {
	p.segment(&e.At)
	p.name(&e.Id)
}

// list is how many things there are, and each of them.
func list[T any](p *pass, l *[]T, one func(p *pass, x *T)) {
	if p.reads() {
		*l = codec.List(p.r, api.MaxFrame, func(*codec.Reader) T {
			var x T
			one(p, &x)
			return x
		})
		return
	}
	codec.Put(p.w, *l, func(w *codec.Writer, x T) {
		if w.Len() > api.MaxFrame {
			p.refuse()
		}
		if !p.wrong { // a message that is refused anyway is not gone through to its end: it may be far too long
			one(p, &x) // x is a copy: what is taken out of it stays where it came from
		}
	})
	*l = nil
}
