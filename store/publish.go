package store

import (
	"slices"

	"hayloft/api"
	"hayloft/disk"
	"hayloft/redo"
)

// Format makes a disk an empty one's; Open opens one.
func Format(d *disk.Disk, shapes []api.Shape) api.Errno {
	if !mayBe(shapes) {
		return api.ErrArg
	}
	s := newStore(d, shapes)
	b, e := s.manifest(s.state)
	if e != api.OK {
		return e
	}
	if _, e := redo.Create(d, logName(0)); e != api.OK {
		return e
	}
	if e := d.Remove(newName); e != api.OK && e != api.ErrDiskNone {
		return e
	}
	return lay(d, b)
}

// successor is a state of the next generation, so far with all that the store has; it may be changed.
func (s *Store) successor() state {
	next := s.state
	next.generation++
	next.segments = nil
	for _, g := range s.segments {
		next.segments = append(next.segments, g.clone())
	}
	return next
}

// publish makes a state what the store is, on the disk and here; file, if it has a byte, is its new container.
func (s *Store) publish(next state, file []byte) api.Errno {
	manifest, e := s.manifest(next)
	if e != api.OK {
		return e
	}
	if s.disk.Free() < len(file)+len(manifest) {
		return api.ErrDiskFull
	}
	if len(file) > 0 {
		if e := write(s.disk, fileName(s.next), file); e != api.OK {
			return e
		}
	}
	log, e := redo.Create(s.disk, logName(next.generation))
	if e != api.OK {
		return e
	}
	if e := lay(s.disk, manifest); e != api.OK {
		return e
	}
	if e := s.dropFiles(next); e != api.OK {
		return e
	}
	s.state, s.log = next, log
	return api.OK
}

// lay puts a manifest in the place of the one that there is, at one step: a crash finds the one or the other.
func lay(d *disk.Disk, manifest []byte) api.Errno {
	if e := write(d, newName, manifest); e != api.OK {
		return e
	}
	return d.Rename(newName, manifestName)
}

// write puts bytes behind a file's end, and makes them last.
func write(d *disk.Disk, name string, b []byte) api.Errno {
	if e := d.Append(name, b); e != api.OK {
		return e
	}
	return d.Sync(name)
}

// dropFiles removes the files that the next state has no use for.
func (s *Store) dropFiles(next state) api.Errno {
	if e := s.disk.Remove(logName(s.generation)); e != api.OK {
		return e
	}
	left := slices.Collect(next.numbers())
	for number := range s.numbers() {
		if slices.Contains(left, number) {
			continue
		}
		if e := s.disk.Remove(fileName(number)); e != api.OK {
			return e
		}
	}
	return api.OK
}
