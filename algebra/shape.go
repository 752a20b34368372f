package algebra

import (
	"slices"

	"tesseract/api"
	"tesseract/space"
)

// Subarray returns the cells of a box.
func Subarray(a api.Array, lo, hi []int) (api.Array, api.Errno) {
	out, e := space.Cut(a, api.Box{Lo: lo, Hi: hi})
	if e != api.OK {
		return api.Array{}, e
	}
	for k, d := range out.Dims {
		d.Lo, d.Hi = max(d.Lo, lo[k]), min(d.Hi, hi[k])
		if d.Lo > min(d.Hi, api.MaxCoord) {
			return api.Array{}, api.ErrRange
		}
		out.Dims[k] = d
	}
	return out, api.OK
}

// Project returns an array with some of the attributes.
func Project(a api.Array, names []string) (api.Array, api.Errno) {
	if !valid(a) || len(names) == 0 {
		return api.Array{}, api.ErrArg
	}
	from, ok := columns(names, attrNames(a.Attrs))
	if !ok {
		return api.Array{}, api.ErrName
	}
	cells := changed(a.Cells, func(c api.Cell) api.Cell { return api.Cell{At: c.At, Vals: chosen(c.Vals, from)} })
	return space.Make(a.Dims, chosen(a.Attrs, from), cells)
}

// Rename gives a dimension or an attribute another name.
func Rename(a api.Array, from, to string) (api.Array, api.Errno) {
	if !valid(a) {
		return api.Array{}, api.ErrArg
	}
	have := allNames(a)
	if !slices.Contains(have, from) || !space.Name(to) || to != from && slices.Contains(have, to) {
		return api.Array{}, api.ErrName
	}
	dims, attrs := slices.Clone(a.Dims), slices.Clone(a.Attrs)
	if k := slices.Index(have, from); k < len(dims) {
		dims[k].Name = to
	} else {
		attrs[k-len(dims)].Name = to
	}
	return space.Make(dims, attrs, a.Cells)
}

// Reshape gives an array other dimensions with as many coordinates.
func Reshape(a api.Array, dims []api.Dim) (api.Array, api.Errno) {
	if !valid(a) {
		return api.Array{}, api.ErrArg
	}
	if e := reshapeError(a, dims); e != api.OK {
		return api.Array{}, e
	}
	cells := changed(a.Cells, func(c api.Cell) api.Cell {
		number, _ := space.Index(a.Dims, c.At)
		at, _ := space.At(dims, number)
		return api.Cell{At: at, Vals: c.Vals}
	})
	return space.Make(dims, a.Attrs, cells)
}

// reshapeError returns the error of new dimensions for a valid array.
func reshapeError(a api.Array, dims []api.Dim) api.Errno {
	if e := space.Schema(dims, a.Attrs); e != api.OK {
		return e
	}
	before, e := space.Volume(a.Dims)
	if e != api.OK {
		return e
	}
	after, e := space.Volume(dims)
	if e != api.OK {
		return e
	}
	if before != after {
		return api.ErrShape
	}
	return api.OK
}

// Transpose puts the dimensions in another order.
func Transpose(a api.Array, names []string) (api.Array, api.Errno) {
	if !valid(a) {
		return api.Array{}, api.ErrArg
	}
	if len(names) != len(a.Dims) {
		return api.Array{}, api.ErrShape
	}
	from, ok := columns(names, dimNames(a.Dims))
	if !ok {
		return api.Array{}, api.ErrName
	}
	cells := changed(a.Cells, func(c api.Cell) api.Cell { return api.Cell{At: chosen(c.At, from), Vals: c.Vals} })
	return space.Make(chosen(a.Dims, from), a.Attrs, cells)
}

// Concat puts one array behind another one, along a dimension.
func Concat(a, b api.Array, dim string) (api.Array, api.Errno) {
	if !valid(a, b) {
		return api.Array{}, api.ErrArg
	}
	along := slices.Index(dimNames(a.Dims), dim)
	if along < 0 {
		return api.Array{}, api.ErrName
	}
	if !canFollow(a.Dims, b.Dims, along) {
		return api.Array{}, api.ErrShape
	}
	if !slices.Equal(a.Attrs, b.Attrs) {
		return api.Array{}, api.ErrType
	}
	shift := a.Dims[along].Hi - b.Dims[along].Lo + 1
	dims := slices.Clone(a.Dims)
	dims[along].Hi = b.Dims[along].Hi + shift
	if dims[along].Hi > api.MaxCoord {
		return api.Array{}, api.ErrRange
	}
	behind := changed(b.Cells, func(c api.Cell) api.Cell {
		at := slices.Clone(c.At)
		at[along] += shift
		return api.Cell{At: at, Vals: c.Vals}
	})
	return space.Make(dims, a.Attrs, slices.Concat(a.Cells, behind))
}

// canFollow reports whether an array with the dimensions b can be put behind one with the dimensions a, along the dimension with this index.
func canFollow(a, b []api.Dim, along int) bool {
	if !slices.Equal(dimNames(a), dimNames(b)) {
		return false
	}
	for k := range a {
		if k != along && a[k] != b[k] {
			return false
		}
	}
	return a[along].Hi != api.Open && b[along].Hi != api.Open
}
