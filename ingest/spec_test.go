package ingest_test

import (
	"fmt"
	"slices"

	"tesseract/api"
	"tesseract/exact"
	"tesseract/ingest"
	"tesseract/space"
)

// This file computes what the chapter defines, as its words say it.

// specDisk is a disk of the chapter.
type specDisk struct {
	sectors       int
	durable       map[int][]byte // other sectors are 0
	pending       []specWrite
	off           bool
	fuse          int // how many operations come before the one in which the power fails, or -1
	picks         []byte
	writes, syncs int
}

type specWrite struct {
	i int
	b []byte
}

// copied returns an independent disk.
func (d *specDisk) copied() *specDisk {
	out := *d
	out.durable = map[int][]byte{}
	for i, b := range d.durable {
		out.durable[i] = slices.Clone(b)
	}
	out.pending = slices.Clone(d.pending)
	return &out
}

// stays returns the durable bytes of a sector.
func (d *specDisk) stays(i int) []byte {
	if b, have := d.durable[i]; have {
		return b
	}
	return make([]byte, ingest.SectorBytes)
}

func (d *specDisk) read(i int) ([]byte, api.Errno) {
	switch {
	case i < 0 || i >= d.sectors:
		return nil, api.ErrRange
	case d.off:
		return nil, api.ErrDown
	}
	for _, w := range slices.Backward(d.pending) {
		if w.i == i {
			return w.b, api.OK
		}
	}
	return d.stays(i), api.OK
}

func (d *specDisk) write(i int, b []byte) api.Errno {
	switch {
	case i < 0 || i >= d.sectors:
		return api.ErrRange
	case len(b) != ingest.SectorBytes:
		return api.ErrArg
	case d.off:
		return api.ErrDown
	}
	d.writes++
	d.pending = append(d.pending, specWrite{i, slices.Clone(b)})
	return d.operation()
}

func (d *specDisk) sync() api.Errno {
	if d.off {
		return api.ErrDown
	}
	d.syncs++
	if e := d.operation(); e != api.OK {
		return e
	}
	for _, w := range d.pending {
		d.durable[w.i] = w.b
	}
	d.pending = nil
	return api.OK
}

// operation returns ErrDown if the power fails in an operation.
func (d *specDisk) operation() api.Errno {
	if d.fuse == 0 {
		d.fail(d.picks)
		return api.ErrDown
	}
	d.fuse = max(d.fuse-1, -1)
	return api.OK
}

func (d *specDisk) fail(picks []byte) {
	for k, w := range d.pending {
		p := 0
		if len(picks) > 0 {
			p = int(picks[k%len(picks)])
		}
		m := p % 65
		b := slices.Clone(d.stays(w.i))
		for j := range b {
			if p < 128 && j < m || p >= 128 && j >= len(b)-m {
				b[j] = w.b[j]
			}
		}
		d.durable[w.i] = b
	}
	d.pending, d.off = nil, true
}

func (d *specDisk) setFuse(n int, picks []byte) api.Errno {
	switch {
	case n < 0:
		return api.ErrRange
	case len(picks) > ingest.MaxPicks:
		return api.ErrLong
	case d.off:
		return api.ErrDown
	}
	d.fuse, d.picks = n, slices.Clone(picks)
	return api.OK
}

func (d *specDisk) crash(picks []byte) api.Errno {
	switch {
	case len(picks) > ingest.MaxPicks:
		return api.ErrLong
	case d.off:
		return api.ErrDown
	}
	d.fail(picks)
	return api.OK
}

// specStore is a store of the chapter.
type specStore struct {
	room      int
	beginning api.DB
	batches   []ingest.Batch // that were committed
	compacted int            // how many of them were committed when it was compacted, or -1 if it was not
}

// has reports whether a batch with a token was committed.
func (s specStore) has(token string) bool {
	return slices.ContainsFunc(s.batches, func(b ingest.Batch) bool { return b.Token == token })
}

// error returns the error of a batch, without ErrFull.
func (s specStore) error(b ingest.Batch) api.Errno {
	if !space.Name(b.Token) {
		return api.ErrName
	}
	if b.Stamp < 0 || b.Stamp > 1<<40 {
		return api.ErrRange
	}
	for _, x := range s.beginning {
		if x.Name == b.Array {
			return changesError(x.Array, b.Changes)
		}
	}
	return api.ErrNone
}

func changesError(a api.Array, l []api.Change) api.Errno {
	if len(l) < 1 || len(l) > 16 {
		return api.ErrMany
	}
	for _, c := range l {
		if e := changeError(a, c); e != api.OK {
			return e
		}
	}
	for k, c := range l {
		for _, d := range l[:k] {
			if slices.Equal(c.At, d.At) {
				return api.ErrHave
			}
		}
	}
	return api.OK
}

func changeError(a api.Array, c api.Change) api.Errno {
	if len(c.At) != len(a.Dims) || len(c.Vals) != 0 && len(c.Vals) != len(a.Attrs) {
		return api.ErrShape
	}
	for k, x := range c.At {
		if x < a.Dims[k].Lo || x > a.Dims[k].Hi || x > api.MaxCoord {
			return api.ErrRange
		}
	}
	for k, v := range c.Vals {
		if !exact.Fits(v, a.Attrs[k].Type) {
			return api.ErrType
		}
	}
	return api.OK
}

// use returns the use of the store.
func (s specStore) use() int {
	n := 1 + 8*len(s.beginning)
	late := s.batches
	if s.compacted >= 0 {
		early := specStore{beginning: s.beginning, batches: s.batches[:s.compacted]}
		for _, x := range s.beginning {
			n += 3 * len(early.places(x))
		}
		n += s.compacted
		late = s.batches[s.compacted:]
	} else {
		for _, x := range s.beginning {
			n += 3 * len(x.Array.Cells)
		}
	}
	for _, b := range late {
		n += 2 + 3*len(b.Changes)
	}
	return n
}

// left returns what Room returns.
func (s specStore) left() int { return s.room - s.use() }

// after returns the store with one more batch, and true if there is room for it.
func (s specStore) after(b ingest.Batch) (specStore, bool) {
	s.batches = append(slices.Clone(s.batches), b)
	return s, s.use() <= s.room
}

// compact returns the compacted store.
func (s specStore) compact() specStore {
	s.compacted = len(s.batches)
	return s
}

// places returns all coordinates of an array that had a cell at the beginning or were changed, in any order.
func (s specStore) places(x api.Named) [][]int {
	var out [][]int
	met := map[string]bool{}
	add := func(at []int) {
		if key := fmt.Sprint(at); !met[key] {
			met[key] = true
			out = append(out, at)
		}
	}
	for _, c := range x.Array.Cells {
		add(c.At)
	}
	for _, b := range s.batches {
		if b.Array != x.Name {
			continue
		}
		for _, c := range b.Changes {
			add(c.At)
		}
	}
	return out
}

// state returns the state that the newest change gives to coordinates, or else that of the beginning.
func (s specStore) state(x api.Named, at []int) []api.Val {
	out, _ := space.Get(x.Array, at)
	var newest *ingest.Batch
	for k, b := range s.batches {
		i := slices.IndexFunc(b.Changes, func(c api.Change) bool { return slices.Equal(c.At, at) })
		if b.Array != x.Name || i < 0 {
			continue
		}
		if newest == nil || b.Stamp > newest.Stamp || b.Stamp == newest.Stamp && b.Token > newest.Token {
			newest, out = &s.batches[k], b.Changes[i].Vals
		}
	}
	return out
}

// db returns the database.
func (s specStore) db() api.DB {
	var out api.DB
	for _, x := range s.beginning {
		var cells []api.Cell
		for _, at := range s.places(x) {
			if v := s.state(x, at); len(v) > 0 {
				cells = append(cells, api.Cell{At: at, Vals: v})
			}
		}
		a, e := space.Make(x.Array.Dims, x.Array.Attrs, cells)
		if e != api.OK {
			panic(fmt.Sprint("error ", e))
		}
		out = append(out, api.Named{Name: x.Name, Array: a})
	}
	return out
}

// tokens returns those of all batches.
func (s specStore) tokens() []string {
	var out []string
	for _, b := range s.batches {
		out = append(out, b.Token)
	}
	return out
}
