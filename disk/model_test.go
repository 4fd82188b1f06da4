package disk_test

import (
	"maps"
	"math/rand/v2"
	"slices"
	"testing"

	"hayloft/api"
	"hayloft/disk"
)

// model says what a disk must answer, in the plainest way: each byte knows by itself whether it lasts.
type model struct {
	room, steps, dies int // it dies at the step that has this number (below 0: at none)
	dead              bool
	files             map[string][]cell
}

type cell struct {
	b     byte
	lasts bool
}

func newModel(room int) *model {
	return &model{room: room, dies: -1, files: map[string][]cell{}}
}

func (m *model) free() int {
	n := m.room
	for _, f := range m.files {
		n -= len(f)
	}
	return n
}

// step is a call that the model has found no fault with.
func (m *model) step(always bool, do func()) api.Errno {
	m.dead = m.steps == m.dies
	m.steps++
	if always || !m.dead {
		do()
	}
	if m.dead {
		return api.ErrDiskDead
	}
	return api.OK
}

func (m *model) put(name, b string) {
	f := slices.Clone(m.files[name])
	for i := range len(b) {
		f = append(f, cell{b[i], false})
	}
	m.files[name] = f
}

func (m *model) sync(name string) {
	f := slices.Clone(m.files[name])
	for i := range f {
		f[i].lasts = true
	}
	m.files[name] = f
}

// crash loses all cells that do not last but the first so many.
func (m *model) crash(keep []int) *model {
	x := newModel(m.room)
	for i, name := range slices.Sorted(maps.Keys(m.files)) {
		more := 0
		if i < len(keep) {
			more = keep[i]
		}
		var left []cell
		for _, c := range m.files[name] {
			if !c.lasts && more <= 0 {
				break
			}
			if !c.lasts {
				more--
			}
			left = append(left, cell{c.b, true})
		}
		x.files[name] = left
	}
	return x
}

func (m *model) listed() []named {
	var l []named
	for _, name := range slices.Sorted(maps.Keys(m.files)) {
		var b []byte
		for _, c := range m.files[name] {
			b = append(b, c.b)
		}
		l = append(l, named{name, string(b)})
	}
	return l
}

func (m *model) looked() look {
	whole := slices.Repeat([]int{1 << 40}, len(m.files))
	return look{m.listed(), m.crash(nil).listed(), m.crash(whole).listed(), m.free(), m.steps, m.dead}
}

// call is one that is the same on a disk and on a model.
type call struct {
	op, n    int
	name, to string
	b        string
}

// aCall is any; few names, so that they meet.
func aCall(r *rand.Rand) call {
	few := []string{"a", "b", "c", "B", "aa", "d e", ""}
	return call{r.IntN(9), r.IntN(9) - 1, few[r.IntN(len(few))], few[r.IntN(len(few))], "0123456789"[:r.IntN(11)]}
}

func onDisk(d *disk.Disk, c call) api.Errno {
	switch c.op {
	case 0, 1, 2:
		return d.Append(c.name, []byte(c.b))
	case 3, 4:
		return d.Sync(c.name)
	case 5:
		return d.Truncate(c.name, c.n)
	case 6, 7:
		return d.Rename(c.name, c.to)
	}
	return d.Remove(c.name)
}

func onModel(m *model, c call) api.Errno {
	f, is := m.files[c.name]
	wrong := func(name string) bool { return name == "" || name == "d e" }
	switch {
	case m.dead:
		return api.ErrDiskDead
	case c.op < 3 && wrong(c.name):
		return api.ErrDiskName
	case c.op < 3 && len(c.b) > m.free():
		return api.ErrDiskFull
	case c.op < 3:
		return m.step(true, func() { m.put(c.name, c.b) })
	case !is:
		return api.ErrDiskNone
	case c.op < 5:
		return m.step(false, func() { m.sync(c.name) })
	case c.op == 5 && (c.n < 0 || c.n > len(f)):
		return api.ErrDiskRange
	case c.op == 5:
		return m.step(false, func() { m.files[c.name] = f[:c.n] })
	case c.op < 8 && wrong(c.to):
		return api.ErrDiskName
	case c.op < 8:
		return m.step(false, func() { delete(m.files, c.name); m.files[c.to] = f })
	}
	return m.step(false, func() { delete(m.files, c.name) })
}

// mischief is what the world does to both now and then; the answer is the disk that goes on.
func mischief(r *rand.Rand, d *disk.Disk, m *model) (*disk.Disk, *model) {
	switch r.IntN(12) {
	case 0:
		at := r.IntN(12) - 2
		d.Arm(at)
		if !m.dead {
			m.dies = -1
			if at >= 0 {
				m.dies = m.steps + at
			}
		}
	case 1:
		keep := make([]int, r.IntN(6))
		for i := range keep {
			keep[i] = r.IntN(8) - 2
		}
		return d.Crash(keep), m.crash(keep)
	case 2:
		return d.Clone(), m
	case 3:
		if r.IntN(10) == 0 {
			d.Wipe()
			clear(m.files)
		}
	case 4:
		at, bit := r.IntN(8)-1, r.IntN(8)
		f := slices.Clone(m.files["a"])
		if d.Flip("a", at, bit) {
			f[at].b ^= 1 << bit
			m.files["a"] = f
		}
	}
	return d, m
}

func TestAgainstAModel(t *testing.T) {
	r := rand.New(rand.NewPCG(4, 1))
	for range 300 {
		room := r.IntN(40)
		d, m := disk.New(room), newModel(room)
		for range 100 {
			c := aCall(r)
			got, want := onDisk(d, c), onModel(m, c)
			if got != want {
				t.Fatalf("P4.2: %+v answers %d, want %d", c, got, want)
			}
			if a, b := looked(d), m.looked(); !same(a, b) {
				t.Fatalf("P4.3: behind %+v: %+v, want %+v", c, a, b)
			}
			d, m = mischief(r, d, m)
		}
	}
}
