package disk

import "slices"

// Crash tells the disk that is found behind a crash: of each file so many of the bytes that did not last yet survive.
func (d *Disk) Crash(keep []int) *Disk {
	found := New(d.room)
	for name, f := range d.rising() {
		more := 0
		if len(keep) > 0 {
			more, keep = keep[0], keep[1:]
		}
		found.files[name] = f.found(more)
	}
	return found
}

// found is the file of which more of the bytes that did not last survive. The number is cut to what there is before it is added: it may be any.
func (f *file) found(more int) *file {
	more = min(max(more, 0), len(f.bytes)-f.lasting)
	n := f.lasting + more
	return &file{bytes: slices.Clone(f.bytes[:n]), lasting: n}
}

// Flip turns a bit.
func (d *Disk) Flip(name string, at, bit int) bool {
	f := d.files[name]
	if f == nil || at < 0 || at >= len(f.bytes) || bit < 0 || bit > 7 {
		return false
	}
	f.bytes[at] ^= 1 << bit
	return true
}

// Wipe takes all files away.
func (d *Disk) Wipe() { clear(d.files) }

// Clone goes its own way.
func (d *Disk) Clone() *Disk {
	c := *d
	c.files = make(map[string]*file, len(d.files))
	for name, f := range d.rising() {
		c.files[name] = &file{bytes: slices.Clone(f.bytes), lasting: f.lasting}
	}
	return &c
}
