package house

import (
	"bytes"

	"cubeb/api"
)

const (
	maxSize = 1000000
	noFuse  = -1
)

// power is what an operation needs.
type power struct {
	off  bool
	fuse int // how many operations are left, or noFuse
}

// works reports whether an operation can be done, and counts it; the power goes off at the one that the fuse does not allow.
func (p *power) works() bool {
	if p.fuse == 0 {
		p.off = true
	}
	if p.off {
		return false
	}
	if p.fuse > 0 {
		p.fuse--
	}
	return true
}

// Disk keeps bytes over power losses.
type Disk struct {
	power
	self  *Disk // the Disk itself: what no call of NewDisk made has another one here
	size  int
	bytes []byte
	safe  int // how many of the bytes are safe
}

// NewDisk returns an empty disk.
func NewDisk(size int) (*Disk, api.Errno) {
	if size < 1 || size > maxSize {
		return nil, api.ErrArg
	}
	d := &Disk{power: power{fuse: noFuse}, size: size}
	d.self = d
	return d, api.OK
}

func (d *Disk) made() bool { return d != nil && d.self == d }

// Append adds bytes.
func (d *Disk) Append(b []byte) api.Errno {
	if !d.made() {
		return api.ErrNil
	}
	if len(b) > d.size-len(d.bytes) {
		return api.ErrFull
	}
	if !d.works() {
		return api.ErrPower
	}
	d.bytes = append(d.bytes, b...)
	return api.OK
}

// Sync makes all bytes safe.
func (d *Disk) Sync() api.Errno {
	if !d.made() {
		return api.ErrNil
	}
	if !d.works() {
		return api.ErrPower
	}
	d.safe = len(d.bytes)
	return api.OK
}

// Cut keeps the first n bytes.
func (d *Disk) Cut(n int) api.Errno {
	if !d.made() {
		return api.ErrNil
	}
	if n < 0 || n > len(d.bytes) {
		return api.ErrArg
	}
	if !d.works() {
		return api.ErrPower
	}
	d.keep(n)
	return api.OK
}

// keep lets the first n bytes remain, all of them safe.
func (d *Disk) keep(n int) {
	d.bytes = d.bytes[:n]
	d.safe = n
}

// Read returns the bytes.
func (d *Disk) Read() ([]byte, api.Errno) {
	if !d.made() {
		return nil, api.ErrNil
	}
	if d.off {
		return nil, api.ErrPower
	}
	return bytes.Clone(d.bytes), api.OK
}

// Fuse cuts the power after k more operations.
func (d *Disk) Fuse(k int) {
	if d.made() && !d.off {
		d.fuse = max(k, noFuse)
	}
}

// Crash keeps some of the bytes that are not safe, and turns the power on.
func (d *Disk) Crash(keep int) {
	if !d.made() {
		return
	}
	open := len(d.bytes) - d.safe
	d.keep(d.safe + min(max(keep, 0), open))
	d.power = power{fuse: noFuse}
}
