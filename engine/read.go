package engine

import (
	"slices"

	"tesseract/api"
	"tesseract/chunk"
	"tesseract/space"
)

// reader reads boxes of the arrays of a store during one call. A chunk that is read several times is decoded only once.
type reader struct {
	store *Store
	known map[place]chunk.Chunk // the chunks that were decoded
}

// readerOf returns a reader for a call.
func readerOf(s *Store) reader { return reader{s, map[place]chunk.Chunk{}} }

// decoded returns a chunk of a stored array.
func (r reader) decoded(name string, no []int) (chunk.Chunk, api.Errno) {
	p := placeOf(name, no)
	if c, is := r.known[p]; is {
		return c, api.OK
	}
	a := r.store.arrays[name]
	c, e := chunk.Decode(a.dims, a.attrs, a.layout, r.store.bytes[p])
	if e != api.OK {
		return chunk.Chunk{}, e
	}
	r.known[p] = c
	return c, api.OK
}

// read returns a stored array with the cells in a box, and how many chunks were decoded for it.
func (r reader) read(name string, b api.Box) (api.Array, int, api.Errno) {
	a := r.store.arrays[name]
	part, is := space.Inter(b, wholeOf(a.dims))
	if !is {
		return api.Array{Dims: slices.Clone(a.dims), Attrs: slices.Clone(a.attrs)}, 0, api.OK
	}
	if no, is := a.single(part); is {
		out, e := r.alone(name, part, no)
		return out, 1, e
	}
	numbers := a.across(part)
	out, e := r.gathered(name, part, numbers)
	return out, len(numbers), e
}

// single returns the first chunk in whose wide box a box lies completely, if there is one: the corners of the box are in it.
func (a stored) single(b api.Box) ([]int, bool) {
	first, _ := space.Homes(a.dims, a.layout, b.Lo)
	last, _ := space.Homes(a.dims, a.layout, b.Hi) // none, if an upper bound is Open: no wide box reaches so far
	for _, no := range first {
		if a.has(no) && slices.ContainsFunc(last, func(x []int) bool { return slices.Equal(x, no) }) {
			return no, true
		}
	}
	return nil, false
}

// across returns the chunks whose cores have a common part with a box: their numbers are between those of the corners of the box.
func (a stored) across(b api.Box) [][]int {
	end := slices.Clone(b.Hi)
	for k := range end {
		end[k] = min(end[k], api.MaxCoord)
	}
	from, e := space.Chunk(a.dims, a.layout, b.Lo)
	if e != api.OK { // the box begins behind all coordinates of an open dimension
		return nil
	}
	to, _ := space.Chunk(a.dims, a.layout, end)
	var out [][]int
	for _, no := range a.numbers {
		if isBetween(from, no, to) {
			out = append(out, no)
		}
	}
	return out
}

// isBetween reports whether each element of a list is at least the one of from, and at most the one of to.
func isBetween(from, l, to []int) bool {
	for k, x := range l {
		if x < from[k] || x > to[k] {
			return false
		}
	}
	return true
}

// alone returns a stored array with the cells in a box, of a chunk that has all of them.
func (r reader) alone(name string, b api.Box, no []int) (api.Array, api.Errno) {
	c, e := r.decoded(name, no)
	if e != api.OK {
		return api.Array{}, e
	}
	return r.made(name, inBox(c.Cells, b))
}

// gathered returns a stored array with the cells in a box, of the cores of several chunks.
func (r reader) gathered(name string, b api.Box, numbers [][]int) (api.Array, api.Errno) {
	a := r.store.arrays[name]
	var cells []api.Cell
	for _, no := range numbers {
		c, e := r.decoded(name, no)
		if e != api.OK {
			return api.Array{}, e
		}
		core, _ := space.Core(a.dims, a.layout, no)
		cells = append(cells, inBox(inBox(c.Cells, core), b)...)
	}
	return r.made(name, cells)
}

// made returns a stored array with some cells, in new memory.
func (r reader) made(name string, cells []api.Cell) (api.Array, api.Errno) {
	a := r.store.arrays[name]
	return space.Make(a.dims, a.attrs, cells)
}

// inBox returns the cells in a box.
func inBox(cells []api.Cell, b api.Box) []api.Cell {
	var out []api.Cell
	for _, c := range cells {
		if space.Has(b, c.At) {
			out = append(out, c)
		}
	}
	return out
}
