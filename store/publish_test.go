package store_test

import (
	"maps"
	"slices"
	"strings"
	"testing"

	"hayloft/api"
	"hayloft/disk"
	"hayloft/store"
	"hayloft/value"
)

// step is what one step of publishing does to the files; an Append that dies has done it too.
type step struct {
	does    func(m image)
	appends bool
}

func appends(name string, b []byte) step { return step{func(m image) { m[name] = b }, true} }

func syncs() step { return step{func(image) {}, false} }

func removes(name string) step { return step{func(m image) { delete(m, name) }, false} }

func renames(from, to string) step {
	return step{func(m image) {
		m[to] = m[from]
		delete(m, from)
	}, false}
}

// publishing is a call that publishes, and what its steps must be on something of everything.
type publishing struct {
	what  string
	call  func(p *pair) api.Errno
	model func(w *world) api.Errno
	file  []byte // the new container
	gone  []string
}

func publishings(t *testing.T) []publishing {
	t.Helper()
	w := full(t)
	file := fileOf(t, a, slices.Concat(w.segments[0].container(0), w.segments[0].container(1), w.segments[0].loose)...)
	replace := func(what string, drop []int, loose bool, file []byte, gone ...string) publishing {
		return publishing{what,
			func(p *pair) api.Errno { return p.s.Replace(a, drop, loose, file) },
			func(w *world) api.Errno { return w.replace(a, drop, loose, file) }, file, gone}
	}
	install := func(what string, whole bool, gone ...string) publishing {
		l := []api.Held{held(a, ver(a, 7, 0, 1, 0), ver(a, 3, 0, 5, 7))}
		return publishing{what,
			func(p *pair) api.Errno { return p.s.Install(7, 3, whole, l) },
			func(w *world) api.Errno { return w.install(7, 3, whole, l) }, nil, gone}
	}
	return []publishing{
		replace("all into one", []int{1, 0}, true, file, "c11", "c2"),
		replace("what is loose", nil, true, fileOf(t, a, w.segments[0].loose...)),
		replace("nothing", nil, false, nil),
		install("install", false),
		install("install, whole", true, "c11", "c2", "c5"),
	}
}

// A publishing does its steps in their order; where one is refused nothing further is done, and the store tells what it told.
func TestPublishSteps(t *testing.T) {
	for _, x := range publishings(t) {
		next := full(t)
		wantErrno(t, "the model", x.model(next), api.OK)
		var steps []step
		if len(x.file) > 0 {
			steps = append(steps, appends("c12", x.file), syncs())
		}
		steps = append(steps, appends("redo.10", nil), syncs(), appends("manifest.new", next.manifest), syncs(), renames("manifest.new", "manifest"), removes("redo.9"))
		for _, name := range x.gone {
			steps = append(steps, removes(name))
		}
		files := full(t).image()
		for n, step := range steps {
			p := fullPair(t)
			was := p.d.Steps()
			p.d.Arm(n)
			wantErrno(t, "P11.8: "+x.what+" dies", x.call(p), api.ErrDiskDead)
			if p.d.Steps() != was+n+1 {
				t.Errorf("P11.8: %s dies at step %d: %d steps", x.what, n, p.d.Steps()-was)
			}
			p.w.want(t, "P11.8: "+x.what+" dies", p.s)
			dying := maps.Clone(files)
			if step.appends {
				step.does(dying)
			}
			wantImage(t, "P11.8: "+x.what+" dies", p.d, dying)
			step.does(files)
		}
		p := fullPair(t)
		was := p.d.Steps()
		wantErrno(t, "P11.8: "+x.what, x.call(p), api.OK)
		if p.d.Steps() != was+len(steps) {
			t.Errorf("P11.8: %s: %d steps, want %d", x.what, p.d.Steps()-was, len(steps))
		}
		wantImage(t, "P11.8: "+x.what, p.d, files)
		wantImage(t, "P11.8: "+x.what+" lasts", p.d.Crash(nil), next.image())
		next.want(t, "P11.8: "+x.what, p.s)
	}
}

// There must be room for the new container and the manifest, and no more.
func TestPublishRoom(t *testing.T) {
	for _, x := range publishings(t) {
		next := full(t)
		x.model(next)
		for _, short := range []int{0, 1, 2, len(next.manifest) / 2, len(next.manifest) + len(x.file)} {
			p := fullPair(t)
			room := p.d.Free()
			wantErrno(t, "filling the disk", p.d.Append("x", make([]byte, room-len(next.manifest)-len(x.file)+short)), api.OK)
			want := api.ErrDiskFull
			if short == 0 {
				want = api.OK
				p.w = next
			}
			was := p.d.Steps()
			wantErrno(t, "P11.8: room for "+x.what, x.call(p), want)
			if short > 0 && p.d.Steps() != was {
				t.Errorf("P11.8: no room for %s: %d steps", x.what, p.d.Steps()-was)
			}
			p.d.Remove("x")
			p.same("P11.8: room for " + x.what)
		}
		p := fullPair(t)
		room := p.d.Free()
		p.d.Append("x", make([]byte, room-10))
		p.d.Arm(0)
		p.d.Append("y", nil)
		wantErrno(t, "P11.8: no room, and the disk is dead", x.call(p), api.ErrDiskFull)
		p = fullPair(t)
		p.d.Arm(0)
		p.d.Append("y", nil)
		wantErrno(t, "P11.8: the disk is dead", x.call(p), api.ErrDiskDead)
		p.w.want(t, "R2: the disk is dead", p.s)
	}
}

// longest is as much as a manifest of one segment, c, can tell: wide rows, some of them cut so that it has just MaxFrame bytes.
func longest(t *testing.T, shapes []api.Shape) []api.Version {
	t.Helper()
	w := newWorld(shapes)
	l := &w.segments[0].loose
	wide := api.Version{Id: name(1, 0)}
	for range 8 {
		wide.Row = append(wide.Row, value.Text(strings.Repeat("x", api.MaxText)))
	}
	for i := range uint32(api.MaxFrame/len(versionBytes(wide)) + 1) {
		wide.Id.Number = i
		*l = append(*l, wide)
	}
	*l = deep(*l)
	over := len(w.told()) - 12 - api.MaxFrame
	for i := 0; over > 0; i++ {
		for k := range (*l)[i].Row {
			cut := min(over, 10)
			(*l)[i].Row[k].Text = (*l)[i].Row[k].Text[cut:]
			over -= cut
		}
	}
	if n := len(w.told()) - 12; n != api.MaxFrame {
		t.Fatalf("the manifest would have %d bytes, not %d", n, api.MaxFrame)
	}
	return *l
}

// A manifest has at most MaxFrame bytes.
func TestPublishLong(t *testing.T) {
	d := disk.New(1 << 27)
	shapes := []api.Shape{{At: c, Columns: 8}}
	wantErrno(t, "P11.1: Format", store.Format(d, shapes), api.OK)
	s := open(t, "formatted", d, shapes)
	l := longest(t, shapes)
	over := deep(l)
	over[0].Row[0].Text += "y"
	steps := d.Steps()
	for _, whole := range []bool{true, false} {
		wantErrno(t, "P11.9: a manifest that is too long", s.Install(1, 0, whole, []api.Held{held(c, over...)}), api.ErrRedoLong)
		newWorld(shapes).want(t, "R2: a manifest that is too long", s)
	}
	if d.Steps() != steps {
		t.Error("R2: a manifest that is too long:", d.Steps()-steps, "steps")
	}
	wantErrno(t, "P11.9: a manifest of just so many bytes", s.Install(1, 0, true, []api.Held{held(c, l...)}), api.OK)
	if got, _ := d.Read("manifest"); len(got) != api.MaxFrame+12 {
		t.Error("P11.9: a manifest of just so many bytes:", len(got))
	}
	u := open(t, "a manifest of just so many bytes", d, shapes)
	if !alike(u.Versions(c), l) {
		t.Error("P11.11: a manifest of just so many bytes tells otherwise")
	}
	wantErrno(t, "P11.4: Prepare", u.Prepare(1, api.Part{}), api.OK)
	wantErrno(t, "P11.8: a manifest that is too long", u.Replace(c, nil, false, nil), api.ErrRedoLong)
	wantErrno(t, "P11.5: Forget", u.Forget(1), api.OK)
	wantErrno(t, "P11.8: a manifest that is not", u.Replace(c, nil, false, nil), api.OK)
}
