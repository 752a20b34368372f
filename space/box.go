package space

import (
	"iter"
	"slices"

	"tesseract/api"
)

// wellFormed reports whether a box is well-formed.
func wellFormed(b api.Box) bool {
	return len(b.Lo) == len(b.Hi) && len(b.Lo) >= 1 && len(b.Lo) <= api.MaxDims
}

// below reports whether x is not above an upper bound of a box.
func below(x, hi int) bool { return x <= hi || hi >= api.Open }

// Whole returns the box of all coordinates.
func Whole(d []api.Dim) (api.Box, api.Errno) {
	if e := dimsError(d, names{}); e != api.OK {
		return api.Box{}, e
	}
	b := api.Box{Lo: make([]int, len(d)), Hi: make([]int, len(d))}
	for k, x := range d {
		b.Lo[k], b.Hi[k] = x.Lo, x.Hi
	}
	return b, api.OK
}

// Inter returns the common part of two boxes.
func Inter(a, b api.Box) (api.Box, bool) {
	if !wellFormed(a) || !wellFormed(b) || len(a.Lo) != len(b.Lo) {
		return api.Box{}, false
	}
	out := api.Box{Lo: make([]int, len(a.Lo)), Hi: make([]int, len(a.Lo))}
	for k := range a.Lo {
		out.Lo[k] = max(a.Lo[k], b.Lo[k])
		out.Hi[k] = min(a.Hi[k], b.Hi[k], api.Open)
		if !below(out.Lo[k], out.Hi[k]) {
			return api.Box{}, false
		}
	}
	return out, true
}

// Has reports whether coordinates are in a box.
func Has(b api.Box, at []int) bool {
	if !wellFormed(b) || len(at) != len(b.Lo) {
		return false
	}
	for k, x := range at {
		if x < b.Lo[k] || !below(x, b.Hi[k]) {
			return false
		}
	}
	return true
}

// Hull returns the least box with all cells.
func Hull(a api.Array) (api.Box, bool) {
	if Check(a) != api.OK || len(a.Cells) == 0 {
		return api.Box{}, false
	}
	b := api.Box{Lo: slices.Clone(a.Cells[0].At), Hi: slices.Clone(a.Cells[0].At)}
	for _, c := range a.Cells {
		for k, x := range c.At {
			b.Lo[k] = min(b.Lo[k], x)
			b.Hi[k] = max(b.Hi[k], x)
		}
	}
	return b, true
}

// Cut returns the array with the cells in a box alone; its dimensions stay.
func Cut(a api.Array, b api.Box) (api.Array, api.Errno) {
	if Check(a) != api.OK {
		return api.Array{}, api.ErrArg
	}
	if !wellFormed(b) || len(b.Lo) != len(a.Dims) {
		return api.Array{}, api.ErrShape
	}
	var cells []api.Cell
	for _, c := range a.Cells {
		if Has(b, c.At) {
			cells = append(cells, c)
		}
	}
	return copied(a.Dims, a.Attrs, cells), api.OK
}

// coordinates yields the coordinates of a box, each in a slice of its own, as they are compared.
// The box has coordinates, and all of its upper bounds are bounds.
func coordinates(b api.Box) iter.Seq[[]int] {
	return func(yield func([]int) bool) {
		at := slices.Clone(b.Lo)
		for yield(slices.Clone(at)) {
			k := len(at) - 1
			for k >= 0 && at[k] == b.Hi[k] {
				at[k] = b.Lo[k]
				k--
			}
			if k < 0 {
				return
			}
			at[k]++
		}
	}
}
