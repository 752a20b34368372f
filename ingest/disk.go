package ingest

import (
	"slices"

	"tesseract/api"
)

// sector is the bytes of a sector.
type sector [SectorBytes]byte

// pendingWrite is a write that is not durable yet.
type pendingWrite struct {
	index int
	to    sector
}

// fuse says in which operation the power will fail.
type fuse struct {
	set    bool
	before int // how many operations come before it
	picks  []byte
}

// Disk is a disk.
type Disk struct {
	self          *Disk    // the Disk itself, so that one that no function of this package returned, also a copied one, is found out
	now           []sector // as they are read
	durable       []sector // as they are without the pending writes
	pending       []pendingWrite
	fuse          fuse
	off           bool
	writes, syncs int
	user          *Store // the only store that can use the disk, if there is one
}

// validDisk reports whether a function of this package returned d.
func validDisk(d *Disk) bool { return d != nil && d.self == d }

// NewDisk returns a disk.
func NewDisk(sectors int) (*Disk, api.Errno) {
	if sectors < MinSectors || sectors > MaxSectors {
		return nil, api.ErrRange
	}
	d := &Disk{now: make([]sector, sectors), durable: make([]sector, sectors)}
	d.self = d
	return d, api.OK
}

// Sectors returns the number of sectors.
func (d *Disk) Sectors() int {
	if !validDisk(d) {
		return 0
	}
	return len(d.now)
}

// Read returns the bytes of a sector.
func (d *Disk) Read(i int) ([]byte, api.Errno) {
	if !validDisk(d) {
		return nil, api.ErrNil
	}
	if i < 0 || i >= len(d.now) {
		return nil, api.ErrRange
	}
	if d.off {
		return nil, api.ErrDown
	}
	return slices.Clone(d.now[i][:]), api.OK
}

// Write writes a sector.
func (d *Disk) Write(i int, b []byte) api.Errno {
	if !validDisk(d) {
		return api.ErrNil
	}
	if i < 0 || i >= len(d.now) {
		return api.ErrRange
	}
	if len(b) != SectorBytes {
		return api.ErrArg
	}
	if d.off {
		return api.ErrDown
	}
	d.writes++
	d.now[i] = sector(b)
	d.pending = append(d.pending, pendingWrite{i, sector(b)})
	return d.burn()
}

// Sync makes all pending writes durable.
func (d *Disk) Sync() api.Errno {
	if !validDisk(d) {
		return api.ErrNil
	}
	if d.off {
		return api.ErrDown
	}
	d.syncs++
	if e := d.burn(); e != api.OK {
		return e
	}
	for _, w := range d.pending {
		d.durable[w.index] = w.to
	}
	d.pending = nil
	return api.OK
}

// burn lets the fuse burn for an operation: ErrDown if the power fails in it.
func (d *Disk) burn() api.Errno {
	if !d.fuse.set {
		return api.OK
	}
	if d.fuse.before > 0 {
		d.fuse.before--
		return api.OK
	}
	d.fail(d.fuse.picks)
	return api.ErrDown
}

// fail lets the power fail.
func (d *Disk) fail(picks []byte) {
	for k, w := range d.pending {
		var pick byte
		if len(picks) > 0 {
			pick = picks[k%len(picks)]
		}
		d.durable[w.index].tear(w.to, pick)
	}
	copy(d.now, d.durable)
	d.pending, d.off = nil, true
}

// tear writes the part of a sector that a pick chooses.
func (s *sector) tear(to sector, pick byte) {
	m := int(pick) % (SectorBytes + 1)
	if pick < 128 {
		copy(s[:m], to[:m])
	} else {
		copy(s[SectorBytes-m:], to[SectorBytes-m:])
	}
}

// Fuse lets the power fail in a later operation.
func (d *Disk) Fuse(n int, picks []byte) api.Errno {
	if !validDisk(d) {
		return api.ErrNil
	}
	if n < 0 {
		return api.ErrRange
	}
	if e := d.picksError(picks); e != api.OK {
		return e
	}
	d.fuse = fuse{true, n, slices.Clone(picks)}
	return api.OK
}

// picksError returns the error of picks with which the power is to fail.
func (d *Disk) picksError(picks []byte) api.Errno {
	if len(picks) > MaxPicks {
		return api.ErrLong
	}
	if d.off {
		return api.ErrDown
	}
	return api.OK
}

// Crash lets the power fail.
func (d *Disk) Crash(picks []byte) api.Errno {
	if !validDisk(d) {
		return api.ErrNil
	}
	if e := d.picksError(picks); e != api.OK {
		return e
	}
	d.fail(picks)
	return api.OK
}

// Down reports whether the power is off.
func (d *Disk) Down() bool { return validDisk(d) && d.off }

// Restart switches the power on.
func (d *Disk) Restart() api.Errno {
	if !validDisk(d) {
		return api.ErrNil
	}
	d.off, d.fuse = false, fuse{}
	return api.OK
}

// Counts returns how many writes and syncs there were.
func (d *Disk) Counts() (writes, syncs int) {
	if !validDisk(d) {
		return 0, 0
	}
	return d.writes, d.syncs
}

// Copy returns an independent disk.
func (d *Disk) Copy() *Disk {
	if !validDisk(d) {
		return nil
	}
	out := *d // also the picks of the fuse, which nobody changes
	out.now, out.durable, out.pending = slices.Clone(d.now), slices.Clone(d.durable), slices.Clone(d.pending)
	out.self, out.user = &out, nil
	return &out
}
