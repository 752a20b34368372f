package agg

import (
	"slices"

	"tesseract/api"
	"tesseract/space"
)

// Group returns aggregates of the cells that are moved to the same coordinates.
func Group(a api.Array, dims []api.Dim, aggs []api.Agg) (api.Array, api.Errno) {
	if space.Check(a) != api.OK {
		return api.Array{}, api.ErrArg
	}
	if _, e := space.Whole(dims); e != api.OK {
		return api.Array{}, e
	}
	readers := make([]reader, len(dims))
	for k, d := range dims {
		r, e := readerOf(a, d.Name)
		if e != api.OK {
			return api.Array{}, e
		}
		readers[k] = r
	}
	p, e := planned(a, dims, aggs)
	if e != api.OK {
		return api.Array{}, e
	}
	return p.collected(a.Cells, func(c api.Cell) ([]int, bool) { return moved(c, dims, readers) })
}

// reader returns an integer of a cell as a value, which may be missing.
type reader func(api.Cell) api.Val

// readerOf returns the reader of the coordinate along the dimension with a name, or of the value of the attribute with this name.
func readerOf(a api.Array, name string) (reader, api.Errno) {
	if k := dimIndex(a.Dims, name); k >= 0 {
		return func(c api.Cell) api.Val { return integer(c.At[k]) }, api.OK
	}
	k := attrIndex(a.Attrs, name)
	if k < 0 {
		return nil, api.ErrName
	}
	if a.Attrs[k].Type != api.TInt {
		return nil, api.ErrType
	}
	return func(c api.Cell) api.Val { return c.Vals[k] }, api.OK
}

// integer returns a small integer as a value.
func integer(x int) api.Val { return api.Val{Kind: api.KNum, N: int64(x), D: 1} }

// moved returns the coordinates along dimensions to which a cell is moved, and false if it is left out.
func moved(c api.Cell, dims []api.Dim, readers []reader) ([]int, bool) {
	at := make([]int, len(dims))
	for k, d := range dims {
		v := readers[k](c)
		if v.Kind == api.KMissing || v.N < int64(d.Lo) || v.N > int64(min(d.Hi, api.MaxCoord)) {
			return nil, false
		}
		at[k] = int(v.N)
	}
	return at, true
}

// Regrid returns aggregates of blocks.
func Regrid(a api.Array, factors []int, aggs []api.Agg) (api.Array, api.Errno) {
	if space.Check(a) != api.OK {
		return api.Array{}, api.ErrArg
	}
	if len(factors) != len(a.Dims) {
		return api.Array{}, api.ErrShape
	}
	if slices.ContainsFunc(factors, func(f int) bool { return f < 1 || f > api.MaxCoord }) {
		return api.Array{}, api.ErrRange
	}
	p, e := planned(a, coarse(a.Dims, factors), aggs)
	if e != api.OK {
		return api.Array{}, e
	}
	return p.collected(a.Cells, func(c api.Cell) ([]int, bool) {
		at := make([]int, len(factors))
		for k, f := range factors {
			at[k] = quotient(c.At[k], f)
		}
		return at, true
	})
}

// coarse returns dimensions for coordinates that are divided by factors.
func coarse(d []api.Dim, factors []int) []api.Dim {
	out := slices.Clone(d)
	for k, f := range factors {
		out[k].Lo = quotient(d[k].Lo, f)
		if d[k].Hi != api.Open {
			out[k].Hi = quotient(d[k].Hi, f)
		}
	}
	return out
}

// quotient returns x / f, rounded down, for an f above 0.
func quotient(x, f int) int {
	q := x / f
	if x%f < 0 {
		q--
	}
	return q
}
