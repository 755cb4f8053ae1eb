package disk

import (
	"cmp"

	"tally/api"
)

// A call at whose stroke the power goes off still does what can be lost, so that Crash can tell it as done; what would make something safe it leaves undone.

// Append adds bytes to a file's end, and makes the file.
func (d *Disk) Append(name string, b []byte) api.Errno {
	f, e := d.find(name)
	isNew := e == api.ErrDiskNone
	if e != api.OK && !isNew {
		return e
	}
	if isNew && len(d.names.seen) >= api.MaxDisk {
		return api.ErrDiskName
	}
	e = d.power.stroke()
	if d.power.isFull() || !d.hasRoom(len(b)) {
		return cmp.Or(e, api.ErrDiskFull)
	}
	if isNew {
		f = newFile(nil)
		d.names.change(move{file: f, to: name})
	}
	f.add(b)
	return e
}

// Cut keeps the first n bytes of a file.
func (d *Disk) Cut(name string, n int) api.Errno {
	f, e := d.find(name)
	if e != api.OK {
		return e
	}
	if n < 0 || n > f.size {
		return api.ErrDiskCut
	}
	e = d.power.stroke()
	f.cut(n)
	return e
}

// Sync makes a file's bytes safe.
func (d *Disk) Sync(name string) api.Errno {
	f, e := d.find(name)
	if e != api.OK {
		return e
	}
	e = d.power.stroke()
	if e == api.OK {
		f.makeSafe()
	}
	return e
}

// SyncNames makes the names safe.
func (d *Disk) SyncNames() api.Errno {
	if d.power.off {
		return api.ErrDiskOff
	}
	e := d.power.stroke()
	if e == api.OK {
		d.names.makeSafe()
	}
	return e
}

// Rename gives a file another name.
func (d *Disk) Rename(from, to string) api.Errno {
	f, e := d.find(from)
	if e != api.ErrDiskOff && !isFileName(to) {
		return api.ErrDiskName
	}
	if e != api.OK {
		return e
	}
	e = d.power.stroke()
	if from != to {
		d.names.change(move{file: f, from: from, to: to})
	}
	return e
}

// Remove takes a file away.
func (d *Disk) Remove(name string) api.Errno {
	_, e := d.find(name)
	if e != api.OK {
		return e
	}
	e = d.power.stroke()
	d.names.change(move{from: name})
	return e
}
