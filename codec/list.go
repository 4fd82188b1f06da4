package codec

import (
	"iter"

	"hayloft/api"
)

// Put writes how many things there are, and each of them.
func Put[T any](w *Writer, l []T, one func(w *Writer, x T)) {
	w.Var(uint64(len(l)))
	for _, x := range l {
		one(w, x)
	}
}

// List reads what Put has written.
func List[T any](r *Reader, most int, one func(r *Reader) T) []T {
	var l []T // grows as things come: a count alone must not make room for what is not there
	for _, x := range Items(r, most, one) {
		l = append(l, x)
	}
	if r.err != api.OK {
		return nil
	}
	return l
}

// Items reads what Put has written, thing by thing; each range over it begins where the reader is then.
func Items[T any](r *Reader, most int, one func(r *Reader) T) iter.Seq2[int, T] {
	return func(yield func(int, T) bool) {
		for i := range r.count(most) {
			if r.err != api.OK { // what ranges over it may have failed r
				return
			}
			x := one(r)
			if r.err != api.OK || !yield(i, x) {
				return
			}
		}
	}
}
