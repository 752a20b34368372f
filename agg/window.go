package agg

import (
	"cmp"
	"iter"
	"slices"

	"tesseract/api"
	"tesseract/space"
)

// isReach reports whether a number of cells, or a distance, can be the reach of a window.
func isReach(n int) bool { return n >= 0 && n <= api.MaxReach }

// Window returns, for each cell, aggregates of the cells around it.
func Window(a api.Array, before, after []int, aggs []api.Agg) (api.Array, api.Errno) {
	if space.Check(a) != api.OK {
		return api.Array{}, api.ErrArg
	}
	if len(before) != len(a.Dims) || len(after) != len(a.Dims) {
		return api.Array{}, api.ErrShape
	}
	for k := range before {
		if !isReach(before[k]) || !isReach(after[k]) {
			return api.Array{}, api.ErrRange
		}
	}
	p, e := planned(a, a.Dims, aggs)
	if e != api.OK {
		return api.Array{}, e
	}
	return p.each(a.Cells, func(c api.Cell) []*State {
		return p.statesOf(inside(a.Cells, around(c.At, before, after)))
	})
}

// around returns the box from some coordinates less before to the coordinates and after together.
func around(at, before, after []int) api.Box {
	b := api.Box{Lo: slices.Clone(at), Hi: slices.Clone(at)}
	for k := range at {
		b.Lo[k] -= before[k]
		b.Hi[k] += after[k]
	}
	return b
}

// inside yields those of some sorted cells that are in a box: they stand between its corners.
func inside(cells []api.Cell, b api.Box) iter.Seq[api.Cell] {
	return func(yield func(api.Cell) bool) {
		first, _ := slices.BinarySearchFunc(cells, b.Lo, func(c api.Cell, at []int) int { return space.Compare(c.At, at) })
		for _, c := range cells[first:] {
			if space.Compare(c.At, b.Hi) > 0 {
				return
			}
			if space.Has(b, c.At) && !yield(c) {
				return
			}
		}
	}
}

// lineOf returns the spot of the line along a dimension on which coordinates are.
func lineOf(at []int, along int) spot {
	s := spotOf(at)
	s[along] = 0
	return s
}

// Vary returns, for each cell, aggregates of some cells before and after it along a dimension, however far away these are.
func Vary(a api.Array, dim string, before, after int, aggs []api.Agg) (api.Array, api.Errno) {
	if space.Check(a) != api.OK {
		return api.Array{}, api.ErrArg
	}
	along := dimIndex(a.Dims, dim)
	if along < 0 {
		return api.Array{}, api.ErrName
	}
	if !isReach(before) || !isReach(after) {
		return api.Array{}, api.ErrRange
	}
	p, e := planned(a, a.Dims, aggs)
	if e != api.OK {
		return api.Array{}, e
	}
	lines := map[spot][]api.Cell{} // the cells of a line are sorted, as those of the array are
	for _, c := range a.Cells {
		s := lineOf(c.At, along)
		lines[s] = append(lines[s], c)
	}
	return p.each(a.Cells, func(c api.Cell) []*State {
		line := lines[lineOf(c.At, along)]
		k, _ := slices.BinarySearchFunc(line, c.At[along], func(x api.Cell, at int) int { return cmp.Compare(x.At[along], at) })
		return p.statesOf(slices.Values(line[max(k-before, 0):min(k+after+1, len(line))]))
	})
}

// Cumulate returns, for each cell, aggregates of the cells up to it along a dimension.
func Cumulate(a api.Array, dim string, aggs []api.Agg) (api.Array, api.Errno) {
	if space.Check(a) != api.OK {
		return api.Array{}, api.ErrArg
	}
	along := dimIndex(a.Dims, dim)
	if along < 0 {
		return api.Array{}, api.ErrName
	}
	p, e := planned(a, a.Dims, aggs)
	if e != api.OK {
		return api.Array{}, e
	}
	lines := map[spot][]*State{} // the states of each line so far, as its cells come in their order
	return p.each(a.Cells, func(c api.Cell) []*State {
		s := lineOf(c.At, along)
		if lines[s] == nil {
			lines[s] = p.begun()
		}
		p.add(lines[s], c)
		return lines[s]
	})
}
