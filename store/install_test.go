package store_test

import (
	"strings"
	"testing"

	"hayloft/api"
	"hayloft/value"
)

func TestInstallEpochs(t *testing.T) {
	for _, whole := range []bool{false, true} {
		p := fullPair(t)
		for _, x := range [][2]uint64{{0, 0}, {5, 0}, {5, 6}, {6, 7}, {7, 8}, {7, most}, {most - 1, most}} {
			p.install("epochs that can't be", x[0], x[1], whole, nil, api.ErrStoreEpoch)
			p.install("epochs ahead of segments", x[0], x[1], whole, []api.Held{{At: nowhere}}, api.ErrStoreEpoch)
		}
		p.install("as it is", 6, 0, whole, nil, api.OK)
		p.install("a mark below", 6, 1, whole, nil, api.OK)
		p.install("a mark above", 6, 3, whole, nil, api.OK)
		p.install("both as upto", 9, 9, whole, nil, api.OK)
		p.install("a mark below", 10, 2, whole, nil, api.OK)
		p.install("as far as can be", most, most, whole, nil, api.OK)
	}
}

func TestInstallMerges(t *testing.T) {
	p := fullPair(t)
	p.install("each way", 9, 3, false, []api.Held{
		held(c, ver(c, 1, 0, 9, 8), ver(c, 9, 0, 1, 0)), // loose, not deleted; new
		held(a,
			ver(a, 8, 1, 7, 9), ver(a, 7, 0, 7, 0), ver(a, 1, 9, 7, 2), // new, in no order
			ver(a, 3, 0, 5, 8),  // a container's, not deleted: it is now
			ver(a, 2, 6, 77, 7), // loose, not deleted: it is now; of another row nobody hears
			ver(a, 1, 0, 9, 3),  // erased: it stays so
			ver(a, 1, 1, 3, 9),  // deleted in its file
			ver(a, 2, 8, 4, 9),  // deleted, loose
			ver(a, 2, 7, 1, 0),  // erased, and not deleted here
			ver(a, 6, 1<<32-1, 8, 0)),
	}, api.OK)
	p.install("nothing", 9, 3, false, nil, api.OK)
	p.install("empty ones", 9, 3, false, []api.Held{held(b), held(a), held(c)}, api.OK)
	p.decide("behind it", 10, most, api.OK)
	p.w.want(t, "P11.11: merged", open(t, "merged", p.d, three()))
	wantVersions(t, "P11.9: merged", p.s.Versions(a),
		ver(a, 1, 0, 9, 6), ver(a, 1, 1, 3, 4), ver(a, 1, 9, 7, 2), ver(a, 2, 6, 4, 7), ver(a, 2, 7, 1, 3), ver(a, 2, 8, 4, 3), ver(a, 3, 0, 5, 8), ver(a, 6, 1<<32-1, 8, 0), ver(a, 7, 0, 7, 0), ver(a, 8, 1, 7, 9))
}

func TestInstallWhole(t *testing.T) {
	p := fullPair(t)
	l := []api.Held{held(b, ver(b, 8, 0, 1, 0), ver(b, 1, 0, 5, 7)), held(a, ver(a, 3, 0, 6, 0))}
	p.install("whole", 9, 1, true, l, api.OK)
	if p.s.Containers(a)+p.s.Containers(b) != 0 || len(p.s.Versions(c)) != 0 {
		t.Error("P11.9: whole: something is left")
	}
	wantVersions(t, "P11.9: whole", p.s.Loose(b), ver(b, 1, 0, 5, 7), ver(b, 8, 0, 1, 0))
	wantNumbers(t, "P11.9: what is prepared stays", p.s.Prepared(), 0, 4, most)
	p.install("whole, once more", 9, 1, true, l, api.OK)
	p.decide("inserts behind it", 10, 4, api.OK)
	p.decide("erases behind it, of what is gone", 11, most, api.OK)
	p.install("whole, nothing", 11, 1, true, nil, api.OK)
}

func TestInstallRefused(t *testing.T) {
	p := fullPair(t)
	tall := api.Version{Id: name(1, 9), Row: []api.Value{value.Text(strings.Repeat("x", 65))}}
	for what, l := range map[string][]api.Held{
		"not here":              {held(a), held(nowhere)},
		"a segment twice":       {held(a), held(b), held(a)},
		"an empty one twice":    {held(b), held(b)},
		"no value":              {held(a, api.Version{Id: name(1, 9)})},
		"two values":            {held(a, api.Version{Id: name(1, 9), Row: row(2, 1)})},
		"a text of 65 bytes":    {held(a, tall)},
		"no kind":               {held(a, api.Version{Id: name(1, 9), Row: []api.Value{{Kind: 9}}})},
		"a bad row of one here": {held(a, api.Version{Id: name(3, 0), Row: row(2, 1)})},
		"epoch 0":               {held(a, ver(a, 0, 0, 1, 0))},
		"epoch 0, deleted":      {held(a, ver(a, 0, 0, 1, 3))},
		"above upto":            {held(a, ver(a, 9, 0, 1, 0))},
		"the last epoch":        {held(a, ver(a, most, 0, 1, 0))},
		"deleted at its epoch":  {held(a, ver(a, 4, 0, 1, 4))},
		"deleted ahead of it":   {held(a, ver(a, 4, 0, 1, 1))},
		"deleted above upto":    {held(a, ver(a, 4, 0, 1, 9))},
		"deleted at the last":   {held(a, ver(a, 4, 0, 1, most))},
		"a name twice":          {held(b), held(a, ver(a, 4, 0, 1, 0), ver(a, 5, 0, 1, 0), ver(a, 4, 0, 1, 0))},
		"a name here, twice":    {held(a, ver(a, 3, 0, 5, 0), ver(a, 3, 0, 5, 0))},
		"the last of many":      {held(a, ver(a, 7, 0, 1, 0)), held(b, ver(b, 7, 0, 1, 0)), held(c, ver(c, 7, 0, 1, 0), ver(c, 9, 0, 1, 0))},
	} {
		p.install(what, 8, 0, false, l, api.ErrStorePart)
		p.install(what+", whole", 8, 0, true, l, api.ErrStorePart)
	}
	good := []api.Held{held(a, ver(a, 8, 0, 1, 0), ver(a, 7, 0, 1, 8)), held(b, ver(b, 8, 0, 1, 0))}
	p.install("what is right", 8, 0, false, good, api.OK)
	p.install("what is right, whole", 8, 0, true, good, api.OK)
}
