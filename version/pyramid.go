package version

import (
	"slices"

	"tesseract/agg"
	"tesseract/api"
	"tesseract/space"
)

// Pyramid is an array and coarser resolutions of it.
type Pyramid struct {
	self *Pyramid // the Pyramid itself, so that one that no function of this package returned, also a copied one, is found out
	schema
	cells  states
	aggs   []api.Agg
	levels []level // the level k has the index k - 1
}

// level is a level of a pyramid from 1 on.
type level struct {
	schema
	factors []int               // powers of those of the pyramid
	blocks  map[place][]api.Val // the aggregates of the blocks that have cells, by the coordinates of these in the level
}

// isPyramid reports whether a function of this package returned p.
func isPyramid(p *Pyramid) bool { return p != nil && p.self == p }

// Build returns the pyramid of an array.
func Build(a api.Array, factors []int, levels int, aggs []api.Agg) (*Pyramid, api.Errno) {
	switch {
	case space.Check(a) != api.OK:
		return nil, api.ErrArg
	case levels < 1 || levels > MaxLevels:
		return nil, api.ErrRange
	case len(factors) != len(a.Dims):
		return nil, api.ErrShape
	case slices.ContainsFunc(factors, func(f int) bool { return !hasPower(f, levels) }):
		return nil, api.ErrRange
	}
	p := &Pyramid{schema: schemaOf(a).copied(), aggs: slices.Clone(aggs)}
	p.self = p
	powers := slices.Clone(factors)
	for range levels {
		l, e := p.emptyLevel(slices.Clone(powers))
		if e != api.OK {
			return nil, e
		}
		p.levels = append(p.levels, l)
		for k, f := range factors {
			powers[k] *= f
		}
	}
	p.take(statesOf(a).copied())
	return p, api.OK
}

// hasPower reports whether f is at least 1, and its n-th power at most MaxCoord.
func hasPower(f, n int) bool {
	if f < 1 {
		return false
	}
	most := api.MaxCoord
	for range n {
		most /= f
	}
	return most > 0
}

// emptyLevel returns the level of an array without cells, or the error of Regrid, which does not depend on the cells.
func (p *Pyramid) emptyLevel(factors []int) (level, api.Errno) {
	a, e := agg.Regrid(p.array(nil), factors, p.aggs)
	if e != api.OK {
		return level{}, e
	}
	return level{schemaOf(a), factors, map[place][]api.Val{}}, api.OK
}

// take makes some cells those of the array, and returns how many blocks of the levels this concerns.
func (p *Pyramid) take(cells states) int {
	changes := difference(p.cells, cells)
	p.cells = cells
	n := 0
	for _, l := range p.levels {
		n += p.refresh(l, changes)
	}
	return n
}

// refresh computes those blocks of a level anew in which something was changed, and returns how many these are.
func (p *Pyramid) refresh(l level, changes states) int {
	touched := map[place]bool{}
	for _, c := range changes {
		touched[l.blockOf(c.At)] = true
	}
	var cells states
	for _, c := range p.cells {
		if touched[l.blockOf(c.At)] {
			cells = append(cells, c)
		}
	}
	for b := range touched { // those that still have cells come back at once
		delete(l.blocks, b)
	}
	a, _ := agg.Regrid(p.array(cells), l.factors, p.aggs)
	for _, c := range a.Cells {
		l.blocks[placeOf(c.At)] = c.Vals
	}
	return len(touched)
}

// blockOf returns the place of the block in which coordinates of the array are.
func (l level) blockOf(at []int) place {
	var b place
	for k, f := range l.factors {
		b[k] = quotient(at[k], f)
	}
	return b
}

// quotient returns x / f, rounded down, for an f above 0.
func quotient(x, f int) int {
	q := x / f
	if x%f < 0 {
		q--
	}
	return q
}

// Change changes the array of a pyramid.
func (p *Pyramid) Change(l []api.Change) (int, api.Errno) {
	if !isPyramid(p) {
		return 0, api.ErrNil
	}
	cells, e := p.changed(p.cells, l)
	if e != api.OK {
		return 0, e
	}
	return p.take(cells), api.OK
}

// Level returns a level of a pyramid.
func (p *Pyramid) Level(k int) (api.Array, api.Errno) {
	switch {
	case !isPyramid(p):
		return api.Array{}, api.ErrNil
	case k < 0 || k > len(p.levels):
		return api.Array{}, api.ErrRange
	case k == 0:
		return p.array(p.cells), api.OK
	}
	return p.levels[k-1].whole(), api.OK
}

// whole returns a level as an array.
func (l level) whole() api.Array {
	var cells []api.Cell // in the order of the map, until they are sorted by Make
	for b, vals := range l.blocks {
		cells = append(cells, api.Cell{At: slices.Clone(b[:len(l.dims)]), Vals: vals})
	}
	a, _ := space.Make(l.dims, l.attrs, cells)
	return a
}
