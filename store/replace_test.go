package store_test

import (
	"bytes"
	"math"
	"slices"
	"testing"

	"hayloft/api"
)

// all is what the containers at these places, and perhaps what is loose, tell.
func (p *pair) all(at api.Segment, loose bool, places ...int) []api.Version {
	var l []api.Version
	for _, i := range places {
		l = append(l, p.s.Container(at, i)...)
	}
	if loose {
		l = append(l, p.s.Loose(at)...)
	}
	return l
}

func TestReplaceAll(t *testing.T) {
	p := fullPair(t)
	p.replace("loose", a, nil, true, fileOf(t, a, p.all(a, true)...), api.OK)
	p.replace("the middle one", a, []int{1}, false, fileOf(t, a, p.all(a, false, 1)...), api.OK)
	p.prepare("an erase", 60, going(erase(a, 3, 0), erase(a, 2, 6)), api.OK)
	p.decide("an erase", 7, 60, api.OK)
	p.replace("two of three, falling", a, []int{2, 0}, false, fileOf(t, a, p.all(a, false, 0, 2)...), api.OK)
	p.replace("all of them", a, []int{0, 1}, true, fileOf(t, a, p.all(a, true, 0, 1)...), api.OK)
	p.replace("nothing goes, nothing comes", a, nil, false, nil, api.OK)
	p.replace("nothing loose", a, nil, true, nil, api.OK)
	p.replace("another segment", c, nil, true, fileOf(t, c, p.all(c, true)...), api.OK)
	p.w.want(t, "P11.11: behind all of them", open(t, "behind all of them", p.d, three()))
}

// What was deleted at or before the mark may go, all of it or some; nothing else.
func TestReplacePurges(t *testing.T) {
	for mark := uint64(2); mark <= 6; mark++ {
		p := fullPair(t)
		p.setMark("a mark", mark, api.OK)
		all := p.all(a, true, 0, 1)
		for leave := range 1 << len(all) {
			var left []api.Version
			may := true
			for i, v := range all {
				if leave&(1<<i) == 0 {
					left = append(left, v)
				} else {
					may = may && v.Deleted != 0 && v.Deleted <= mark
				}
			}
			if len(left) == 0 {
				continue
			}
			want := api.ErrStorePart
			if may {
				want = api.OK
			}
			q := &pair{t, open(t, "once more", p.d.Clone(), three()), nil, p.w.clone()}
			file := fileOf(t, a, left...)
			wantErrno(t, "P11.8: some go (the model)", q.w.replace(a, []int{0, 1}, true, file), want)
			wantErrno(t, "P11.8: some go", q.s.Replace(a, []int{0, 1}, true, file), want)
			q.w.want(t, "P11.8: some go", q.s)
		}
	}
	p := fullPair(t)
	p.setMark("a mark", 6, api.OK)
	p.replace("a container that was deleted goes", a, []int{1}, false, nil, api.OK)
	p.replace("one that was not stays", a, []int{0}, false, nil, api.ErrStorePart)
}

func TestReplaceRefused(t *testing.T) {
	p := fullPair(t)
	p.setMark("a mark", 3, api.OK)
	all := p.all(a, true, 0, 1)
	file := fileOf(t, a, all...)
	change := func(f func(v *api.Version)) []byte {
		l := deep(all)
		f(&l[1])
		return fileOf(t, a, l...)
	}
	for what, c := range map[string]struct {
		at    api.Segment
		drop  []int
		loose bool
		file  []byte
	}{
		"not here":                  {nowhere, nil, false, nil},
		"not here, with a file":     {nowhere, []int{0, 1}, true, file},
		"a place of -1":             {a, []int{-1}, false, nil},
		"a place of 2 of 2":         {a, []int{0, 1, 2}, true, file},
		"the least place":           {a, []int{math.MinInt}, false, nil},
		"the greatest place":        {a, []int{math.MaxInt}, false, nil},
		"a place twice":             {a, []int{0, 1, 0}, true, file},
		"a place twice, purged":     {a, []int{1, 1}, false, nil},
		"no place in c":             {c, []int{0}, false, nil},
		"no container's bytes":      {a, []int{0, 1}, true, []byte("HAY1")},
		"one byte":                  {a, nil, false, []byte{0}},
		"a file that is cut":        {a, []int{0, 1}, true, file[:len(file)-1]},
		"a byte behind":             {a, []int{0, 1}, true, append(bytes.Clone(file), 0)},
		"a file without a version":  {a, nil, false, fileOf(t, a)},
		"that, and one is purged":   {a, []int{1}, false, fileOf(t, a)},
		"no sort":                   {a, []int{0, 1}, true, fileAs(t, 1, nil, all...)},
		"b's versions as a's":       {b, []int{0}, false, file},
		"another sort":              {b, []int{0}, false, fileAs(t, 2, []int{0, 1}, p.all(b, false, 0)...)},
		"less of a sort":            {b, []int{0}, false, fileAs(t, 2, []int{1}, p.all(b, false, 0)...)},
		"the loose ones stay":       {a, []int{0, 1}, false, file},
		"the second stays":          {a, []int{0}, true, file},
		"none goes":                 {a, nil, false, file},
		"nothing comes":             {a, []int{0, 1}, true, nil},
		"another row":               {a, []int{0, 1}, true, change(func(v *api.Version) { v.Row = row(1, 77) })},
		"another name":              {a, []int{0, 1}, true, change(func(v *api.Version) { v.Id.Number += 90 })},
		"another epoch":             {a, []int{0, 1}, true, change(func(v *api.Version) { v.Id.Epoch++; v.Id.Number = 50 })},
		"deleted, as it was not":    {a, []int{0, 1}, true, change(func(v *api.Version) { v.Deleted = 6 })},
		"one more":                  {a, []int{0, 1}, true, fileOf(t, a, append(deep(all), ver(a, 1, 5, 1, 0))...)},
		"one more that was deleted": {a, []int{0, 1}, true, fileOf(t, a, append(deep(all), ver(a, 1, 5, 1, 2))...)},
		"as the file had it":        {a, []int{0}, false, p.w.segments[0].files[0].bytes},
	} {
		p.replace(what, c.at, c.drop, c.loose, c.file, api.ErrStorePart)
	}
	p.replace("what is right", a, []int{0, 1}, true, file, api.OK)
}

// A row is what it was, in whichever kinds and order its container is written.
func TestReplaceOrder(t *testing.T) {
	p := fullPair(t)
	l := p.all(a, true, 1, 0)
	slices.Reverse(l)
	p.replace("another order", a, []int{1, 0}, true, fileOf(t, a, l...), api.OK)
	wantVersions(t, "P11.7: by its sort columns", p.s.Container(a, 0),
		ver(a, 2, 7, 1, 3), ver(a, 1, 1, 3, 4), ver(a, 2, 6, 4, 0), ver(a, 2, 8, 4, 3), ver(a, 3, 0, 5, 0), ver(a, 6, math.MaxUint32, 8, 0), ver(a, 1, 0, 9, 6))
}
