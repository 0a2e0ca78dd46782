package firm

import "lampblack/api"

const (
	maxSize = 1_000_000
	noFuse  = -1
)

// file is the bytes of a file, of which the first ones are safe.
type file struct {
	bytes []byte
	safe  int
}

// Disk keeps the bytes of two files over power losses.
type Disk struct {
	self  *Disk // the Disk itself, if NewDisk made it: a copy is none
	size  int
	files [2]file
	off   bool
	fuse  int // how many more operations are done; noFuse if there is no end to them
}

// NewDisk returns a disk with two empty files, the power on, without a fuse.
func NewDisk(size int) (*Disk, api.Errno) {
	if size < 1 || size > maxSize {
		return nil, api.ErrArg
	}
	d := &Disk{size: size, fuse: noFuse}
	d.self = d
	return d, api.OK
}

// Append adds bytes to a file. They are not safe yet.
func (d *Disk) Append(f int, b []byte) api.Errno {
	kept, e := d.file(f)
	if e != api.OK {
		return e
	}
	if len(d.files[0].bytes)+len(d.files[1].bytes)+len(b) > d.size {
		return api.ErrFull
	}
	if !d.spend() {
		return api.ErrPower
	}
	kept.bytes = append(kept.bytes, b...)
	return api.OK
}

// Clear empties a file, which is safe.
func (d *Disk) Clear(f int) api.Errno { return d.Cut(f, 0) }

// Cut keeps the first n bytes of a file, all of which are safe then.
func (d *Disk) Cut(f, n int) api.Errno {
	kept, e := d.file(f)
	if e != api.OK {
		return e
	}
	if n < 0 || n > len(kept.bytes) {
		return api.ErrArg
	}
	if !d.spend() {
		return api.ErrPower
	}
	*kept = file{kept.bytes[:n], n}
	return api.OK
}

// Sync makes all bytes of a file safe.
func (d *Disk) Sync(f int) api.Errno {
	kept, e := d.file(f)
	if e != api.OK {
		return e
	}
	if !d.spend() {
		return api.ErrPower
	}
	kept.safe = len(kept.bytes)
	return api.OK
}

// Read returns the bytes of a file. It is no operation that a fuse counts.
func (d *Disk) Read(f int) ([]byte, api.Errno) {
	kept, e := d.file(f)
	if e != api.OK {
		return nil, e
	}
	if d.off {
		return nil, api.ErrPower
	}
	b := make([]byte, len(kept.bytes))
	copy(b, kept.bytes)
	return b, api.OK
}

// Fuse lets k more operations be done: at the next one the power goes off. If k is below 0
// there is no fuse. It has no effect while the power is off.
func (d *Disk) Fuse(k int) {
	if d.isMade() && !d.off {
		d.fuse = max(k, noFuse)
	}
}

// Crash keeps, of the bytes that are not safe, the first a of file 0 and the first b of file
// 1, and turns the power on, without a fuse.
func (d *Disk) Crash(a, b int) {
	if !d.isMade() {
		return
	}
	d.files[0].keep(a)
	d.files[1].keep(b)
	d.off, d.fuse = false, noFuse
}

// keep keeps the first n of the bytes that are not safe, which are safe then.
func (f *file) keep(n int) {
	more := min(max(n, 0), len(f.bytes)-f.safe)
	f.safe += more
	f.bytes = f.bytes[:f.safe]
}

// isMade reports whether NewDisk returned this Disk.
func (d *Disk) isMade() bool { return d != nil && d.self == d }

// file returns a file, or the errors that come before all others.
func (d *Disk) file(f int) (*file, api.Errno) {
	if !d.isMade() {
		return nil, api.ErrNil
	}
	if f < 0 || f >= len(d.files) {
		return nil, api.ErrArg
	}
	return &d.files[f], api.OK
}

// spend reports whether the power lasts for one operation more.
func (d *Disk) spend() bool {
	if d.fuse == 0 {
		d.off = true
	}
	if d.fuse > 0 {
		d.fuse--
	}
	return !d.off
}

// step is an operation on a disk.
type step func(d *Disk) api.Errno

// do does steps in turn, until one of them has an error, which it returns.
func (d *Disk) do(steps ...step) api.Errno {
	for _, s := range steps {
		if e := s(d); e != api.OK {
			return e
		}
	}
	return api.OK
}

// writing appends lines to a file, all at once.
func writing(f int, lines ...string) step {
	return func(d *Disk) api.Errno { return d.Append(f, []byte(ended(lines...))) }
}

// cutting keeps the first n bytes of a file.
func cutting(f, n int) step {
	return func(d *Disk) api.Errno { return d.Cut(f, n) }
}

// syncing makes all bytes of a file safe.
func syncing(f int) step {
	return func(d *Disk) api.Errno { return d.Sync(f) }
}

// clearing empties a file.
func clearing(f int) step {
	return func(d *Disk) api.Errno { return d.Clear(f) }
}
