package system

import (
	"tesseract/api"
	"tesseract/cluster"
	"tesseract/ingest"
	"tesseract/version"
)

func (s *System) hasDisk() bool { return s.store != nil }

func (s *System) hasCluster() bool { return s.cluster != nil }

func (s *System) newDisk(r *request) (string, api.Errno) {
	d, e := ingest.NewDisk(r.numbers[0])
	if e != api.OK {
		return "", e
	}
	store, e := ingest.Format(d, s.database())
	if e != api.OK {
		return "", e
	}
	s.disk, s.store = d, store
	return s.room()
}

// room answers how much room is left on the disk.
func (s *System) room() (string, api.Errno) {
	n, e := s.store.Room()
	return counted("room", n), e
}

func (s *System) put(r *request) (string, api.Errno) {
	is, e := s.store.Put(ingest.Batch{Token: r.words[0], Stamp: int64(r.numbers[0]), Array: r.words[1], Changes: r.changes})
	if is {
		return "new", e
	}
	return "old", e
}

func (s *System) compact(r *request) (string, api.Errno) {
	if e := s.store.Compact(); e != api.OK {
		return "", e
	}
	return s.room()
}

func (s *System) crash(r *request) (string, api.Errno) {
	var picks []byte
	for _, p := range r.lists[0] {
		if p < 0 || p > 255 {
			return "", api.ErrArg
		}
		picks = append(picks, byte(p))
	}
	return done, s.disk.Crash(picks)
}

// restart restarts the disk, and opens the store on it.
func (s *System) restart(r *request) (string, api.Errno) {
	if e := s.disk.Restart(); e != api.OK {
		return "", e
	}
	store, e := ingest.Open(s.disk)
	if e != api.OK {
		return "", e
	}
	s.store = store
	l, e := store.Tokens()
	return counted("batches", len(l)), e
}

func (s *System) load(r *request) (string, api.Errno) {
	db, e := s.store.DB()
	if e != api.OK {
		return "", e
	}
	n := 0
	for _, x := range db {
		a, have := s.find(x.Name)
		if !have {
			continue
		}
		l, e := version.Delta(a.newest(), x.Array)
		if e != api.OK || len(l) == 0 { // other dimensions or attributes, or nothing to change
			continue
		}
		if _, e := a.commit(mainBranch, a.head(), l); e != api.OK {
			return "", e
		}
		n++
	}
	return counted("loaded", n), api.OK
}

func (s *System) newCluster(r *request) (string, api.Errno) {
	c, e := cluster.New(r.numbers[0], r.numbers[1])
	if e != api.OK {
		return "", e
	}
	db := s.database()
	for k, x := range db {
		if e := c.Put(x.Name, x.Array, s.arrays[k].layout); e != api.OK {
			return "", e
		}
	}
	s.cluster, s.placed = c, db
	return done, api.OK
}

func (s *System) fail(r *request) (string, api.Errno) { return done, s.cluster.Fail(r.numbers[0]) }

func (s *System) back(r *request) (string, api.Errno) { return done, s.cluster.Back(r.numbers[0]) }

func (s *System) join(r *request) (string, api.Errno) {
	n, e := s.cluster.Join()
	return counted("worker", n), e
}

func (s *System) repair(r *request) (string, api.Errno) {
	copies, lost, e := s.cluster.Repair()
	return counted("copies", copies) + " " + counted("lost", lost), e
}

func (s *System) ask(r *request) (string, api.Errno) {
	plan, e := planned(s.placed, r.query)
	if e != api.OK {
		return "", e
	}
	_, n, e := s.cluster.Run(plan, r.lists[0])
	return counted("boxes", n.Boxes) + " " + counted("chunks", n.Chunks) + " " + counted("sent", n.Sent), e
}
