package cluster

import (
	"maps"
	"slices"

	"tesseract/api"
	"tesseract/chunk"
	"tesseract/space"
)

// stored is what the catalog says of an array. It is not changed.
type stored struct {
	dims    []api.Dim
	attrs   []api.Attr
	layout  api.Layout
	numbers [][]int // those of the chunks, sorted
}

// Put stores an array.
func (c *Cluster) Put(name string, a api.Array, l api.Layout) api.Errno {
	if e := c.putError(name, a, l); e != api.OK {
		return e
	}
	if len(c.up()) == 0 {
		return api.ErrDown
	}
	c.keep(name, a, l)
	return api.OK
}

// putError returns the error of an array that does not concern workers.
func (c *Cluster) putError(name string, a api.Array, l api.Layout) api.Errno {
	switch {
	case !valid(c):
		return api.ErrNil
	case space.Check(a) != api.OK:
		return api.ErrArg
	case !space.Name(name):
		return api.ErrName
	}
	if _, have := c.catalog[name]; have {
		return api.ErrHave
	}
	if len(c.catalog) == api.MaxArrays {
		return api.ErrMany
	}
	return space.Layout(a.Dims, l)
}

// keep stores an array for which Put has no error.
func (c *Cluster) keep(name string, a api.Array, l api.Layout) {
	x := stored{dims: slices.Clone(a.Dims), attrs: slices.Clone(a.Attrs), layout: l}
	x.layout.Sides, x.layout.Overlap = slices.Clone(l.Sides), slices.Clone(l.Overlap)
	up := c.up()
	chunks, _ := chunk.Split(a, l)
	for _, part := range chunks {
		x.numbers = append(x.numbers, part.No)
		b, _ := chunk.Encode(a.Dims, a.Attrs, l, part)
		for _, w := range Place(name, part.No, up, c.replicas) {
			c.workers[w].chunks[placeOf(name, part.No)] = b
		}
	}
	c.catalog[name] = x
}

// find returns the array with a name: ErrNil, or ErrNone.
func (c *Cluster) find(name string) (stored, api.Errno) {
	if !valid(c) {
		return stored{}, api.ErrNil
	}
	a, have := c.catalog[name]
	if !have {
		return stored{}, api.ErrNone
	}
	return a, api.OK
}

// Drop removes an array.
func (c *Cluster) Drop(name string) api.Errno {
	a, e := c.find(name)
	if e != api.OK {
		return e
	}
	for _, no := range a.numbers {
		for _, w := range c.workers {
			delete(w.chunks, placeOf(name, no))
		}
	}
	delete(c.catalog, name)
	return api.OK
}

// Move stores an array in another layout.
func (c *Cluster) Move(name string, l api.Layout) api.Errno {
	a, e := c.find(name)
	if e != api.OK {
		return e
	}
	if e := space.Layout(a.dims, l); e != api.OK {
		return e
	}
	if len(c.up()) == 0 {
		return api.ErrDown
	}
	for _, no := range a.numbers {
		if len(c.holders(placeOf(name, no))) == 0 {
			return api.ErrLost
		}
	}
	whole, _ := space.Whole(a.dims)
	all, _ := c.readerFor(c.up()[0]).read(name, whole)
	c.Drop(name)
	c.keep(name, all, l)
	return api.OK
}

// Repair copies and removes replicas until they are where they belong.
func (c *Cluster) Repair() (int, int, api.Errno) {
	if !valid(c) {
		return 0, 0, api.ErrNil
	}
	up := c.up()
	copies, lost := 0, 0
	for name, a := range c.catalog {
		for _, no := range a.numbers {
			b, held := c.bytes(placeOf(name, no))
			if held {
				copies += c.settle(placeOf(name, no), b, Place(name, no, up, c.replicas))
			} else {
				lost++
			}
		}
	}
	return copies, lost, api.OK
}

// settle gives some workers, and no other ones, a replica of a chunk, and returns how many of them had none.
func (c *Cluster) settle(p place, b []byte, workers []int) int {
	copies := 0
	for k, w := range c.workers {
		_, has := w.chunks[p]
		belongs := slices.Contains(workers, k)
		switch {
		case belongs && !has:
			w.chunks[p] = b
			copies++
		case has && !belongs:
			delete(w.chunks, p)
		}
	}
	return copies
}

// bytes returns the bytes of a chunk, and false if it has no holder.
func (c *Cluster) bytes(p place) ([]byte, bool) {
	for _, w := range c.workers {
		if b, has := w.chunks[p]; has {
			return b, true
		}
	}
	return nil, false
}

// holders returns the workers that have a replica of a chunk, in ascending order.
func (c *Cluster) holders(p place) []int {
	var out []int
	for k, w := range c.workers {
		if _, has := w.chunks[p]; has {
			out = append(out, k)
		}
	}
	return out
}

// Schemas returns the stored arrays without their cells, sorted by their names.
func (c *Cluster) Schemas() api.DB {
	if !valid(c) {
		return nil
	}
	var out api.DB
	for _, name := range slices.Sorted(maps.Keys(c.catalog)) {
		a := c.catalog[name]
		out = append(out, api.Named{Name: name, Array: api.Array{Dims: slices.Clone(a.dims), Attrs: slices.Clone(a.attrs)}})
	}
	return out
}

// Chunks returns the numbers of the chunks of a stored array.
func (c *Cluster) Chunks(name string) ([][]int, api.Errno) {
	a, e := c.find(name)
	if e != api.OK {
		return nil, e
	}
	var out [][]int
	for _, no := range a.numbers {
		out = append(out, slices.Clone(no))
	}
	return out, api.OK
}

// Holders returns the workers that have a replica of a chunk.
func (c *Cluster) Holders(name string, no []int) ([]int, api.Errno) {
	a, e := c.find(name)
	if e != api.OK {
		return nil, e
	}
	if !a.has(no) {
		return nil, api.ErrNone
	}
	return c.holders(placeOf(name, no)), api.OK
}

// has reports whether an array has a chunk with some numbers.
func (a stored) has(no []int) bool {
	_, is := slices.BinarySearchFunc(a.numbers, no, space.Compare)
	return is
}
