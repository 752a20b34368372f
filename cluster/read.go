package cluster

import (
	"tesseract/api"
	"tesseract/chunk"
	"tesseract/space"
)

// reader reads boxes of the stored arrays for a worker, and counts the chunks that are decoded and sent.
// A chunk that is read several times is counted each time, but decoded only once.
type reader struct {
	cluster *Cluster
	worker  int
	known   map[place]opened // the chunks that were decoded
	stats   Stats
}

// opened has the cells of a chunk: all of them, and those in its core.
type opened struct{ all, core []api.Cell }

// readerFor returns a reader for a worker.
func (c *Cluster) readerFor(worker int) *reader {
	return &reader{cluster: c, worker: worker, known: map[place]opened{}}
}

// read returns a stored array with the cells in a box, which is a part of its whole box: OK, or ErrLost.
func (r *reader) read(name string, b api.Box) (api.Array, api.Errno) {
	a := r.cluster.catalog[name]
	if no, is := r.single(name, b); is {
		x, _ := r.decoded(name, no)
		return space.Make(a.dims, a.attrs, inBox(x.all, b))
	}
	var cells []api.Cell
	for _, no := range a.across(b) {
		x, is := r.decoded(name, no)
		if !is {
			return api.Array{}, api.ErrLost
		}
		cells = append(cells, inBox(x.core, b)...)
	}
	return space.Make(a.dims, a.attrs, cells)
}

// single returns the first chunk with a holder in whose wide box a box lies completely, if there is one.
func (r *reader) single(name string, b api.Box) ([]int, bool) {
	a := r.cluster.catalog[name]
	homes, _ := space.Homes(a.dims, a.layout, b.Lo) // none, if the box begins behind all coordinates of an open dimension
	for _, no := range homes {
		wide, _ := space.Wide(a.dims, a.layout, no)
		if _, held := r.cluster.bytes(placeOf(name, no)); held && space.Has(wide, b.Hi) {
			return no, true
		}
	}
	return nil, false
}

// across returns the chunks whose cores have a common part with a box: their numbers are between those of the corners of the box.
func (a stored) across(b api.Box) [][]int {
	from, e := space.Chunk(a.dims, a.layout, b.Lo)
	if e != api.OK { // the box begins behind all coordinates of an open dimension
		return nil
	}
	end := make([]int, len(b.Hi))
	for k, x := range b.Hi {
		end[k] = min(x, api.MaxCoord)
	}
	to, _ := space.Chunk(a.dims, a.layout, end)
	var out [][]int
	for _, no := range a.numbers {
		if isBetween(from, no, to) {
			out = append(out, no)
		}
	}
	return out
}

// isBetween reports whether each element of a list is at least the one of from, and at most the one of to.
// These are no boxes of coordinates: the numbers of chunks can be greater than Open.
func isBetween(from, l, to []int) bool {
	for k, x := range l {
		if x < from[k] || x > to[k] {
			return false
		}
	}
	return true
}

// decoded returns the cells of a chunk, and counts it; false if it has no holder.
func (r *reader) decoded(name string, no []int) (opened, bool) {
	p := placeOf(name, no)
	x, is := r.known[p]
	if !is {
		b, held := r.cluster.bytes(p)
		if !held {
			return opened{}, false
		}
		a := r.cluster.catalog[name]
		c, _ := chunk.Decode(a.dims, a.attrs, a.layout, b)
		core, _ := space.Core(a.dims, a.layout, no)
		x = opened{c.Cells, inBox(c.Cells, core)}
		r.known[p] = x
	}
	r.stats.Chunks++
	if _, has := r.cluster.workers[r.worker].chunks[p]; !has {
		r.stats.Sent++
	}
	return x, true
}

// inBox returns the cells in a box.
func inBox(cells []api.Cell, b api.Box) []api.Cell {
	var out []api.Cell
	for _, c := range cells {
		if space.Has(b, c.At) {
			out = append(out, c)
		}
	}
	return out
}
