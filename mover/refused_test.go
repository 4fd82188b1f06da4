package mover_test

import (
	"math"
	"slices"
	"strings"
	"testing"

	"hayloft/api"
	"hayloft/value"
)

// rowsOf are n versions of a; the first so many of them were deleted at 3.
func rowsOf(n, deleted int) []api.Version {
	var l []api.Version
	for i := range n {
		v := ver(a, 2, uint32(i), int64(-i), 0)
		if i < deleted {
			v.Deleted = 3
		}
		l = append(l, v)
	}
	return l
}

// A container has at most MaxRows versions: of what is left, not of what was told.
func TestOutTooMany(t *testing.T) {
	for _, x := range []struct {
		rows, deleted int
		mark          uint64
		want          api.Errno
	}{
		{api.MaxRows, 0, 0, api.OK},
		{api.MaxRows + 1, 0, 0, api.ErrFileRows},
		{api.MaxRows + 1, 1, 2, api.ErrFileRows},
		{api.MaxRows + 1, 1, 3, api.OK},
		{api.MaxRows + 100, 99, 3, api.ErrFileRows},
		{api.MaxRows + 100, 100, 3, api.OK},
		{api.MaxRows + 100, api.MaxRows + 100, 3, api.OK},
	} {
		p := begin(t)
		p.install(3, x.mark, held(a, rowsOf(x.rows, x.deleted)...))
		many := x.rows
		if x.want != api.OK {
			many = 0
		}
		p.moves("many rows", out(), a, nil, many, x.want)
	}
}

func TestMergeTooMany(t *testing.T) {
	for _, x := range []struct {
		rows, more, deleted int
		want                api.Errno
	}{
		{api.MaxRows - 1, 1, 0, api.OK},
		{api.MaxRows, 1, 0, api.ErrFileRows},
		{api.MaxRows, 1, 1, api.OK},
		{api.MaxRows, 100, 99, api.ErrFileRows},
		{api.MaxRows, 100, 100, api.OK},
		{api.MaxRows, 1, api.MaxRows, api.OK},
	} {
		p := begin(t)
		p.install(3, 0, held(a, rowsOf(x.rows, x.deleted)...))
		p.pack(a)
		var l []api.Version
		for i := range x.more {
			l = append(l, ver(a, 3, uint32(i), int64(i), 0))
		}
		p.ok("Install", p.s.Install(3, 3, false, []api.Held{held(a, l...)}))
		p.pack(a)
		many := x.rows + x.more
		if x.want != api.OK {
			many = 0
		}
		p.moves("many rows", merge(), a, nil, many, x.want)
	}
}

// Epochs above 2^63 - 1 may be in a store, but in no container.
func TestEpochsTooGreat(t *testing.T) {
	const edge = math.MaxInt64
	for _, x := range []struct {
		v    api.Version
		mark uint64
		want api.Errno
	}{
		{ver(a, edge, 0, 1, 0), 0, api.OK},
		{ver(a, edge+1, 0, 1, 0), 0, api.ErrFileRows},
		{ver(a, math.MaxUint64, 0, 1, 0), math.MaxUint64, api.ErrFileRows},
		{ver(a, 1, 0, 1, edge), 0, api.OK},
		{ver(a, 1, 0, 1, edge+1), 0, api.ErrFileRows},
		{ver(a, 1, 0, 1, edge+1), edge, api.ErrFileRows},
		{ver(a, 1, 0, 1, edge+1), edge + 1, api.OK},
		{ver(a, edge+1, 0, 1, edge+2), edge + 1, api.ErrFileRows},
		{ver(a, edge+1, 0, 1, edge+2), edge + 2, api.OK},
		{ver(a, edge+1, 0, 1, math.MaxUint64), math.MaxUint64, api.OK},
	} {
		p := begin(t)
		p.install(math.MaxUint64, x.mark, held(a, x.v, ver(a, 1, 1, 5, 0)))
		was := p.s.Versions(a)
		many := 2
		if x.want != api.OK {
			many = 0
		}
		p.answers("a great epoch", out(), a, nil, many, x.want)
		if x.want != api.OK {
			wantVersions(t, "P12.4: a great epoch", p.s.Loose(a), was...)
		}
	}
	// What was erased of a container's since.
	p := begin(t)
	p.install(1, 0, held(a, ver(a, 1, 0, 1, 0), ver(a, 1, 1, 2, 0)))
	p.pack(a)
	p.ok("Install", p.s.Install(edge+2, 0, false, []api.Held{held(a, ver(a, 1, 0, 1, edge+1))}))
	p.answers("erased at a great epoch", merge(), a, nil, 0, api.ErrFileRows)
	wantVersions(t, "P12.4: erased at a great epoch", p.s.Container(a, 0), ver(a, 1, 0, 1, edge+1), ver(a, 1, 1, 2, 0))
	p.setMark(edge + 1)
	p.answers("that, with the mark there", merge(), a, nil, 2, api.OK)
	wantVersions(t, "P12.3: that, with the mark there", p.s.Versions(a), ver(a, 1, 1, 2, 0))
}

// work is a call, and a store in which it has something to do.
type work struct {
	move
	at   api.Segment
	make func(t *testing.T) *pair
	many int
}

// works are both calls, where something is left, and where nothing is.
func works() []work {
	gone := func(p *pair) *pair {
		p.t.Helper()
		p.epoch(nil, erase(a, 1, 3), erase(a, 2, 0))
		p.setMark(p.s.Through())
		return p
	}
	return []work{
		{out(), a, some, 5},
		{out(), a, func(t *testing.T) *pair { return gone(some(t)) }, 5},
		{merge(), a, packed, 6},
		{merge(), b, func(t *testing.T) *pair {
			p := packed(t)
			p.setMark(5)
			return p
		}, 1},
	}
}

// There must be room for the container and the manifest; else nothing has changed.
func TestNoRoom(t *testing.T) {
	for _, x := range works() {
		hand := x.make(t)
		was := imageOf(hand.d)
		x.hand(hand.s, x.at, nil)
		manifest, _ := hand.d.Read("manifest")
		need := len(manifest)
		for name, file := range imageOf(hand.d) {
			if _, old := was[name]; !old && name[0] == 'c' {
				need += len(file)
			}
		}
		for _, short := range []int{0, 1, len(manifest) - 1, len(manifest), need} {
			p := x.make(t)
			p.ok("Append", p.d.Append("x", make([]byte, p.d.Free()-need+short)))
			tells, scans, steps := told(p.s), seen(p.s, 0), p.d.Steps()
			if short == 0 {
				p.answers("just room enough", x.move, x.at, nil, x.many, api.OK)
				continue
			}
			p.answers("no room", x.move, x.at, nil, 0, api.ErrDiskFull)
			if !same(told(p.s), tells) || !same(seen(p.s, 0), scans) || p.d.Steps() != steps {
				t.Errorf("P12.4: %s: no room: something has changed", x.what)
			}
			p.ok("Remove", p.d.Remove("x"))
			p.moves("room again", x.move, x.at, nil, x.many, api.OK)
		}
	}
}

// That a container may not be is said ahead of what the disk would say.
func TestRowsErrorFirst(t *testing.T) {
	p := begin(t)
	p.install(3, 0, held(a, rowsOf(api.MaxRows+1, 0)...))
	p.ok("Append", p.d.Append("x", make([]byte, p.d.Free())))
	p.answers("too many, and no room", out(), a, nil, 0, api.ErrFileRows)
	p.die()
	p.answers("too many, and the disk is dead", out(), a, nil, 0, api.ErrFileRows)
}

// Wherever the disk dies, what is seen is as it was: of the store, and of what is found on the disk.
func TestDies(t *testing.T) {
	deaths := 0
	for _, x := range works() {
		for n := 0; ; n++ {
			p := x.make(t)
			tells, scans := told(p.s), seen(p.s, 0)
			p.d.Arm(n)
			many, e := x.call(p.s, x.at, nil)
			if e == api.OK {
				break
			}
			deaths++
			if many != 0 || e != api.ErrDiskDead {
				t.Fatalf("%s: the disk dies at step %d: %d, %d", x.what, n, many, e)
			}
			if !same(told(p.s), tells) || !same(seen(p.s, 0), scans) {
				t.Errorf("P12.4: %s: the disk dies at step %d: the store tells otherwise", x.what, n)
			}
			p.answers("the disk is dead", x.move, x.at, nil, 0, api.ErrDiskDead)
			for _, keep := range [][]int{nil, {5, 5, 5, 5, 5, 5, 5, 5}, slices.Repeat([]int{math.MaxInt}, 9)} {
				found := p.d.Crash(keep)
				q := &pair{t, open(t, found), found}
				if !same(seen(q.s, p.s.Mark()), seen(p.s, p.s.Mark())) {
					t.Errorf("P12.4: %s: the disk dies at step %d: another is found", x.what, n)
				}
				many, e := x.hand(q.clone().s, x.at, nil)
				q.moves("behind a crash", x.move, x.at, nil, many, e)
			}
		}
	}
	if deaths < 20 {
		t.Error("too few deaths:", deaths)
	}
}

// A manifest that would be too long, for what is prepared, is refused; nothing has changed.
func TestManifestTooLong(t *testing.T) {
	wide := slices.Repeat([]api.Value{value.Text(strings.Repeat("x", api.MaxText))}, 8)
	for _, m := range []move{out(), merge()} {
		p := beginWith(t, 1<<27)
		p.epoch([]api.Insert{insert(a, 0, 5), insert(a, 1, 4)})
		if m.what == merge().what {
			p.pack(a)
		}
		var l []api.Insert
		for i := range uint32(1000) {
			l = append(l, api.Insert{At: c, Ver: api.Version{Id: name(0, i), Row: wide}})
		}
		for txn := range uint64(api.MaxFrame/500000 + 1) {
			p.ok("Prepare", p.s.Prepare(txn, api.Part{Inserts: l}))
		}
		tells, steps := told(p.s), p.d.Steps()
		p.answers("too long a manifest", m, a, nil, 0, api.ErrRedoLong)
		if !same(told(p.s), tells) || p.d.Steps() != steps {
			t.Errorf("P12.4: %s: too long a manifest: something has changed", m.what)
		}
		for txn := range uint64(9) {
			p.ok("Forget", p.s.Forget(txn))
		}
		p.answers("a shorter one", m, a, nil, 2, api.OK)
	}
}
