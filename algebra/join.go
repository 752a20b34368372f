package algebra

import (
	"slices"

	"tesseract/api"
	"tesseract/space"
)

// Join joins cells with equal coordinates along the common dimensions.
func Join(a, b api.Array) (api.Array, api.Errno) {
	if !valid(a, b) {
		return api.Array{}, api.ErrArg
	}
	if !haveCommon(dimNames(a.Dims), dimNames(b.Dims)) {
		return api.Array{}, api.ErrShape
	}
	if haveCommon(attrNames(a.Attrs), allNames(b)) || haveCommon(dimNames(a.Dims), attrNames(b.Attrs)) {
		return api.Array{}, api.ErrName
	}
	return joined(a, b)
}

// Cross joins each cell with each other one.
func Cross(a, b api.Array) (api.Array, api.Errno) {
	if !valid(a, b) {
		return api.Array{}, api.ErrArg
	}
	if haveCommon(allNames(a), allNames(b)) {
		return api.Array{}, api.ErrName
	}
	return joined(a, b)
}

// pairing says which dimensions of two arrays are common: left are their indexes in the first array, right, in the same order, those in the second one;
// and rest are the indexes of the other dimensions of the second array.
type pairing struct {
	left, right, rest []int
}

// paired returns the pairing of dimensions.
func paired(a, b []api.Dim) pairing {
	var p pairing
	have := dimNames(a)
	for k, d := range b {
		if i := slices.Index(have, d.Name); i >= 0 {
			p.left = append(p.left, i)
			p.right = append(p.right, k)
		} else {
			p.rest = append(p.rest, k)
		}
	}
	return p
}

// joined returns the join of two arrays whose names fit. They may have no common dimension.
func joined(a, b api.Array) (api.Array, api.Errno) {
	p := paired(a.Dims, b.Dims)
	dims := slices.Concat(a.Dims, chosen(b.Dims, p.rest))
	attrs := slices.Concat(a.Attrs, b.Attrs)
	if len(dims) > api.MaxDims || len(attrs) > api.MaxAttrs {
		return api.Array{}, api.ErrMany
	}
	for i, k := range p.left {
		d := b.Dims[p.right[i]]
		dims[k].Lo, dims[k].Hi = max(dims[k].Lo, d.Lo), min(dims[k].Hi, d.Hi)
		if dims[k].Lo > dims[k].Hi {
			return api.Array{}, api.ErrRange
		}
	}
	cells, e := joinedCells(a.Cells, b.Cells, p)
	if e != api.OK {
		return api.Array{}, e
	}
	return space.Make(dims, attrs, cells)
}

// joinedCells returns the joined cells, and ErrMany as soon as there are too many of them.
func joinedCells(a, b []api.Cell, p pairing) ([]api.Cell, api.Errno) {
	partners := map[spot][]api.Cell{}
	for _, c := range b {
		s := spotOf(chosen(c.At, p.right))
		partners[s] = append(partners[s], c)
	}
	var out []api.Cell
	for _, c := range a {
		for _, x := range partners[spotOf(chosen(c.At, p.left))] {
			if len(out) == api.MaxCells {
				return nil, api.ErrMany
			}
			out = append(out, api.Cell{At: slices.Concat(c.At, chosen(x.At, p.rest)), Vals: slices.Concat(c.Vals, x.Vals)})
		}
	}
	return out, api.OK
}

// Merge returns the cells of a, and those of b where a has none.
func Merge(a, b api.Array) (api.Array, api.Errno) {
	if !valid(a, b) {
		return api.Array{}, api.ErrArg
	}
	if !slices.Equal(dimNames(a.Dims), dimNames(b.Dims)) {
		return api.Array{}, api.ErrShape
	}
	if !slices.Equal(a.Attrs, b.Attrs) {
		return api.Array{}, api.ErrType
	}
	dims := slices.Clone(a.Dims)
	for k, d := range b.Dims {
		dims[k].Lo, dims[k].Hi = min(dims[k].Lo, d.Lo), max(dims[k].Hi, d.Hi)
	}
	taken := map[spot]bool{}
	for _, c := range a.Cells {
		taken[spotOf(c.At)] = true
	}
	cells := slices.Clone(a.Cells)
	for _, c := range b.Cells {
		if !taken[spotOf(c.At)] {
			cells = append(cells, c)
		}
	}
	return space.Make(dims, a.Attrs, cells)
}
