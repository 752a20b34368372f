package ingest

import (
	"slices"

	"tesseract/api"
	"tesseract/space"
)

// Store is a database on a disk.
type Store struct {
	self *Store // the Store itself, as for disks
	disk *Disk
	contents
	number uint64 // of the log
	end    int    // how many sectors the log has
}

// usable returns ErrNil if no function of this package returned s, and ErrDown if it cannot be used.
func (s *Store) usable() api.Errno {
	if s == nil || s.self != s {
		return api.ErrNil
	}
	if s.disk.off || s.disk.user != s {
		return api.ErrDown
	}
	return api.OK
}

// opened returns a store, which is from now on the only one that can use its disk.
func opened(s *Store) *Store {
	s.self, s.disk.user = s, s
	return s
}

// inTurn does some steps, up to the first error.
func inTurn(steps ...func() api.Errno) api.Errno {
	for _, step := range steps {
		if e := step(); e != api.OK {
			return e
		}
	}
	return api.OK
}

// write does the steps of a change of the disk. If the power fails meanwhile, no store can use the disk any more, until it is opened again.
func (s *Store) write(steps ...func() api.Errno) api.Errno {
	e := inTurn(steps...)
	if e != api.OK {
		s.disk.user = nil
	}
	return e
}

// fill writes sectors, one behind the other.
func (d *Disk) fill(first int, l []sector) api.Errno {
	for k, x := range l {
		if e := d.Write(first+k, x[:]); e != api.OK {
			return e
		}
	}
	return api.OK
}

// Format makes a store on a disk.
func Format(d *Disk, db api.DB) (*Store, api.Errno) {
	if !validDisk(d) {
		return nil, api.ErrNil
	}
	if len(db) == 0 || space.Database(db) != api.OK {
		return nil, api.ErrArg
	}
	if d.off {
		return nil, api.ErrDown
	}
	s := &Store{disk: d, contents: contentsOf(db)}
	log := s.log()
	if useWithoutLog+len(log) > d.room() {
		return nil, api.ErrFull
	}
	e := s.write(
		func() api.Errno { return d.fill(0, make([]sector, heads)) },
		d.Sync,
		func() api.Errno { return s.rewrite(log) },
	)
	if e != api.OK {
		return nil, e
	}
	return opened(s), api.OK
}

// rewrite writes a new log into the other half, whatever was there before. Only when all of it is durable, its head makes it the newest one.
func (s *Store) rewrite(log []sector) api.Errno {
	d, number := s.disk, s.number+1
	half := make([]sector, d.room())
	copy(half, log)
	e := s.write(
		func() api.Errno { return d.fill(d.half(number), half) },
		d.Sync,
		func() api.Errno { return d.fill(headIndex(number), []sector{headOf(number)}) },
		d.Sync,
	)
	if e != api.OK {
		return e
	}
	s.number, s.end = number, len(log)
	return api.OK
}

// Open returns the store on a disk.
func Open(d *Disk) (*Store, api.Errno) {
	if !validDisk(d) {
		return nil, api.ErrNil
	}
	if d.off {
		return nil, api.ErrDown
	}
	number := max(numberOf(d.now[0]), numberOf(d.now[1]))
	if number == 0 {
		return nil, api.ErrForm
	}
	half := slices.Clone(d.now[d.half(number):][:d.room()])
	c, end, ok := replay(half)
	if !ok {
		return nil, api.ErrForm
	}
	s := &Store{disk: d, contents: c, number: number, end: end}
	if e := s.clean(half); e != api.OK {
		return nil, e
	}
	return opened(s), api.OK
}

// clean makes all sectors of a half 0 that are behind the log, so that what remains of a record that was not committed never becomes a part of another one.
func (s *Store) clean(half []sector) api.Errno {
	var steps []func() api.Errno
	for k := s.end; k < len(half); k++ {
		if half[k] != (sector{}) {
			steps = append(steps, func() api.Errno { return s.disk.fill(s.disk.half(s.number)+k, make([]sector, 1)) })
		}
	}
	if len(steps) == 0 {
		return api.OK
	}
	return inTurn(append(steps, s.disk.Sync)...)
}

// Put commits a batch.
func (s *Store) Put(b Batch) (bool, api.Errno) {
	if e := s.usable(); e != api.OK {
		return false, e
	}
	x, e := s.entryOf(b)
	if e != api.OK {
		return false, e
	}
	if slices.Contains(s.tokens, x.token) {
		return false, api.OK
	}
	r := recordOfBatch(x)
	if s.room() < len(r) {
		return false, api.ErrFull
	}
	if e := s.add(r); e != api.OK {
		return false, e
	}
	s.commit(x)
	return true, api.OK
}

// add writes a record behind the log. As long as its first sector is not there, there is no record.
func (s *Store) add(r record) api.Errno {
	d, first := s.disk, s.disk.half(s.number)+s.end
	e := s.write(
		func() api.Errno { return d.fill(first+1, r[1:]) },
		d.Sync,
		func() api.Errno { return d.fill(first, r[:1]) },
		d.Sync,
	)
	if e != api.OK {
		return e
	}
	s.end += len(r)
	return api.OK
}

// Compact compacts the store.
func (s *Store) Compact() api.Errno {
	if e := s.usable(); e != api.OK {
		return e
	}
	return s.rewrite(s.log())
}

// DB returns the database.
func (s *Store) DB() (api.DB, api.Errno) {
	if e := s.usable(); e != api.OK {
		return nil, e
	}
	return s.database(), api.OK
}

// Tokens returns the tokens of all batches.
func (s *Store) Tokens() ([]string, api.Errno) {
	if e := s.usable(); e != api.OK {
		return nil, e
	}
	return slices.Clone(s.tokens), api.OK
}

// Room returns how much room is left.
func (s *Store) Room() (int, api.Errno) {
	if e := s.usable(); e != api.OK {
		return 0, e
	}
	return s.room(), api.OK
}

// room returns the room of the disk, less the use.
func (s *Store) room() int { return s.disk.room() - useWithoutLog - s.end }
