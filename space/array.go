package space

import (
	"slices"

	"tesseract/api"
	"tesseract/exact"
)

// Check checks an array.
func Check(a api.Array) api.Errno {
	if e := manyError(a.Dims, a.Attrs, a.Cells); e != api.OK {
		return e
	}
	for k, c := range a.Cells {
		if e := cellError(a.Dims, a.Attrs, c); e != api.OK {
			return e
		}
		if k == 0 {
			continue
		}
		switch Compare(a.Cells[k-1].At, c.At) {
		case 0:
			return api.ErrHave
		case 1:
			return api.ErrArg
		}
	}
	return api.OK
}

// manyError returns the error of Schema, and ErrMany if there are too many cells.
func manyError(d []api.Dim, a []api.Attr, cells []api.Cell) api.Errno {
	if e := Schema(d, a); e != api.OK {
		return e
	}
	if len(cells) > api.MaxCells {
		return api.ErrMany
	}
	return api.OK
}

// cellError returns the error of a cell by itself, wherever it stands among the others.
func cellError(d []api.Dim, a []api.Attr, c api.Cell) api.Errno {
	if len(c.At) != len(d) || len(c.Vals) != len(a) {
		return api.ErrShape
	}
	if e := placeError(d, c.At); e != api.OK {
		return e
	}
	for k, v := range c.Vals {
		if !exact.Fits(v, a[k].Type) {
			return api.ErrType
		}
	}
	return api.OK
}

// Make returns the array with some cells, in any order.
func Make(d []api.Dim, a []api.Attr, cells []api.Cell) (api.Array, api.Errno) {
	if e := manyError(d, a, cells); e != api.OK {
		return api.Array{}, e
	}
	for _, c := range cells {
		if e := cellError(d, a, c); e != api.OK {
			return api.Array{}, e
		}
	}
	l := sorted(slices.Values(cells), func(c api.Cell) []int { return c.At }, Compare)
	for k := 1; k < len(l); k++ {
		if Compare(l[k-1].At, l[k].At) == 0 {
			return api.Array{}, api.ErrHave
		}
	}
	return copied(d, a, l), api.OK
}

// copied returns an array with these parts in new memory.
func copied(d []api.Dim, a []api.Attr, cells []api.Cell) api.Array {
	out := api.Array{Dims: slices.Clone(d), Attrs: slices.Clone(a), Cells: make([]api.Cell, len(cells))}
	for k, c := range cells {
		out.Cells[k] = api.Cell{At: slices.Clone(c.At), Vals: slices.Clone(c.Vals)}
	}
	return out
}

// Get returns the values of a cell.
func Get(a api.Array, at []int) ([]api.Val, bool) {
	if Check(a) != api.OK {
		return nil, false
	}
	k, is := slices.BinarySearchFunc(a.Cells, at, func(c api.Cell, at []int) int { return Compare(c.At, at) })
	if !is {
		return nil, false
	}
	return slices.Clone(a.Cells[k].Vals), true
}

// Same reports whether two arrays are the same.
func Same(a, b api.Array) bool {
	if Check(a) != api.OK || Check(b) != api.OK {
		return false
	}
	return slices.Equal(a.Dims, b.Dims) && slices.Equal(a.Attrs, b.Attrs) && slices.EqualFunc(a.Cells, b.Cells, sameCell)
}

// sameCell reports whether two cells are the same.
func sameCell(a, b api.Cell) bool {
	return slices.Equal(a.At, b.At) && slices.Equal(a.Vals, b.Vals)
}
