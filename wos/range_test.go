package wos_test

import (
	"iter"
	"slices"
	"testing"

	"hayloft/api"
	"hayloft/wos"
)

// five are versions by rising names, some of which are deleted.
func five() []api.Version {
	return []api.Version{ver(1, 0, 0), ver(1, 1, 3), ver(2, 0, 0), ver(2, 5, 4), ver(3, 0, 0)}
}

// ranges are all that a wos gives a range over, and what they give of these versions.
func ranges(w *wos.Wos, l []api.Version) map[string]struct {
	seq  iter.Seq[api.Version]
	want []api.Version
} {
	return map[string]struct {
		seq  iter.Seq[api.Version]
		want []api.Version
	}{
		"All":   {w.All(), l},
		"At(0)": {w.At(0), visible(l, 0)},
		"At(1)": {w.At(1), visible(l, 1)},
		"At(2)": {w.At(2), visible(l, 2)},
		"At(3)": {w.At(3), visible(l, 3)},
		"At(4)": {w.At(4), visible(l, 4)},
		"At(9)": {w.At(9), visible(l, 9)},
	}
}

func TestAt(t *testing.T) {
	w := holding(t, five()...)
	for epoch, want := range [][]api.Version{
		{},
		{ver(1, 0, 0), ver(1, 1, 0)},
		{ver(1, 0, 0), ver(1, 1, 0), ver(2, 0, 0), ver(2, 5, 0)},
		{ver(1, 0, 0), ver(2, 0, 0), ver(2, 5, 0), ver(3, 0, 0)},
		{ver(1, 0, 0), ver(2, 0, 0), ver(3, 0, 0)},
		{ver(1, 0, 0), ver(2, 0, 0), ver(3, 0, 0)},
	} {
		wantGiven(t, "P10.3: At", w.At(uint64(epoch)), want)
	}
	wantThere(t, "P10.3: At changes nothing", w, five()...)
}

func TestRangeLeft(t *testing.T) {
	w := holding(t, five()...)
	for what, r := range ranges(w, five()) {
		for stop := range len(r.want) + 1 {
			var got []api.Version
			for v := range r.seq {
				if len(got) == stop {
					break
				}
				got = append(got, v)
			}
			if !alike(got, r.want[:stop]) {
				t.Errorf("R11: %s, left behind %d: %+v", what, stop, got)
			}
		}
		wantGiven(t, "R11: "+what+", gone over again", r.seq, r.want)
		wantGiven(t, "R11: "+what+", and again", r.seq, r.want)
	}
}

// doings are all that changes five.
func doings() map[string]func(w *wos.Wos) {
	return map[string]func(w *wos.Wos){
		"Add ahead":           func(w *wos.Wos) { w.Add(ver(0, 0, 0)) },
		"Add between":         func(w *wos.Wos) { w.Add(ver(2, 1, 0)) },
		"Add behind":          func(w *wos.Wos) { w.Add(ver(9, 9, 0)) },
		"Erase the first":     func(w *wos.Wos) { w.Erase(name(1, 0), 2) },
		"Erase the last":      func(w *wos.Wos) { w.Erase(name(3, 0), 4) },
		"Erase all":           func(w *wos.Wos) { w.Erase(name(1, 0), 2); w.Erase(name(2, 0), 3); w.Erase(name(3, 0), 4) },
		"Purge some":          func(w *wos.Wos) { w.Purge(3) },
		"Purge all deleted":   func(w *wos.Wos) { w.Purge(9) },
		"Take":                func(w *wos.Wos) { w.Take() },
		"Take, and add":       func(w *wos.Wos) { w.Take(); w.Add(ver(7, 7, 0)) },
		"Purge, and add":      func(w *wos.Wos) { w.Purge(9); w.Add(ver(0, 1, 0)); w.Add(ver(7, 7, 0)) },
		"Take, and add again": func(w *wos.Wos) { w.Take(); w.Add(ver(1, 0, 2)); w.Add(ver(3, 0, 4)) },
	}
}

// What is done while a range goes on is not seen by it, and is seen by the next one.
func TestRangeWhileChanged(t *testing.T) {
	for done, do := range doings() {
		changed := holding(t, five()...)
		do(changed)
		later := slices.Collect(changed.All())
		if alike(later, five()) {
			t.Fatal(done, "does nothing")
		}
		for what := range ranges(wos.New(), nil) {
			w := holding(t, five()...)
			r := ranges(w, five())[what]
			var got []api.Version
			for v := range r.seq {
				got = append(got, v)
				if len(got) == 1 {
					do(w)
				}
			}
			if !alike(got, r.want) {
				t.Errorf("P10.3: %s while %s goes on: %+v, want %+v", done, what, got, r.want)
			}
			if len(got) == 0 {
				do(w)
			}
			wantGiven(t, "P10.3: "+what+" behind "+done, r.seq, ranges(w, later)[what].want)
		}
	}
}

// An iterator tells what there is when its range begins, not when it was made.
func TestRangeBegins(t *testing.T) {
	for done, do := range doings() {
		w := holding(t, five()...)
		all, at := w.All(), w.At(3)
		do(w)
		l := slices.Collect(w.All())
		wantGiven(t, "P10.3: All made ahead of "+done, all, l)
		wantGiven(t, "P10.3: At made ahead of "+done, at, visible(l, 3))
	}
}

func TestRangesInRanges(t *testing.T) {
	w := holding(t, five()...)
	for _, seq := range []iter.Seq[api.Version]{w.All(), w.At(9)} {
		outer := slices.Collect(seq)
		var got []api.Version
		for v := range seq {
			got = append(got, v)
			there := slices.Collect(seq)
			fresh := ver(0, uint32(w.Len()), 0)
			w.Add(fresh)
			if again := slices.Collect(seq); len(again) != len(there)+1 {
				t.Errorf("P10.3: a range within one: %d, then %d", len(there), len(again))
			}
		}
		if !alike(got, outer) {
			t.Errorf("P10.3: ranges within a range: %+v, want %+v", got, outer)
		}
	}
}
