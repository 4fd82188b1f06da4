package disk

import "hayloft/api"

// Arm says how many steps are done yet before the one at which the disk dies; below 0: it does not.
func (d *Disk) Arm(at int) {
	if !d.dead {
		d.left = max(at, notArmed)
	}
}

// step counts a call that is not refused, and tells whether the disk lives on. What is left is counted down, since a sum with the steps done could run over.
func (d *Disk) step() bool {
	d.steps++
	d.dead = d.left == 0
	if d.left > 0 {
		d.left--
	}
	return !d.dead
}

// Append writes behind a file's end. A disk that dies at it has the bytes, too: it is for Crash to say how many of them are found.
func (d *Disk) Append(name string, b []byte) api.Errno {
	switch {
	case d.dead:
		return api.ErrDiskDead
	case !isName(name):
		return api.ErrDiskName
	case len(b) > d.Free():
		return api.ErrDiskFull
	}
	alive := d.step()
	f := d.files[name]
	if f == nil {
		f = &file{}
		d.files[name] = f
	}
	f.bytes = append(f.bytes, b...)
	if !alive {
		return api.ErrDiskDead
	}
	return api.OK
}

// Sync makes what was written last.
func (d *Disk) Sync(name string) api.Errno {
	f := d.files[name]
	switch {
	case d.dead:
		return api.ErrDiskDead
	case f == nil:
		return api.ErrDiskNone
	case !d.step():
		return api.ErrDiskDead
	}
	f.lasting = len(f.bytes)
	return api.OK
}

// Truncate cuts a file behind its first n bytes.
func (d *Disk) Truncate(name string, n int) api.Errno {
	f := d.files[name]
	switch {
	case d.dead:
		return api.ErrDiskDead
	case f == nil:
		return api.ErrDiskNone
	case n < 0 || n > len(f.bytes):
		return api.ErrDiskRange
	case !d.step():
		return api.ErrDiskDead
	}
	f.bytes = f.bytes[:n]
	f.lasting = min(f.lasting, n)
	return api.OK
}

// Rename gives a file another name; one that was called so is gone.
func (d *Disk) Rename(from, to string) api.Errno {
	f := d.files[from]
	switch {
	case d.dead:
		return api.ErrDiskDead
	case f == nil:
		return api.ErrDiskNone
	case !isName(to):
		return api.ErrDiskName
	case !d.step():
		return api.ErrDiskDead
	}
	// in this order, for from and to may be the same
	delete(d.files, from)
	d.files[to] = f
	return api.OK
}

// Remove takes a file away.
func (d *Disk) Remove(name string) api.Errno {
	switch {
	case d.dead:
		return api.ErrDiskDead
	case d.files[name] == nil:
		return api.ErrDiskNone
	case !d.step():
		return api.ErrDiskDead
	}
	delete(d.files, name)
	return api.OK
}
