package agg

import (
	"slices"

	"tesseract/api"
	"tesseract/exact"
	"tesseract/space"
)

// Rank adds the rank of each cell by an attribute, among the cells with the same coordinates along some dimensions.
func Rank(a api.Array, attr string, dims []string, as string) (api.Array, api.Errno) {
	if space.Check(a) != api.OK {
		return api.Array{}, api.ErrArg
	}
	by := attrIndex(a.Attrs, attr)
	if by < 0 {
		return api.Array{}, api.ErrName
	}
	along, ok := indexesOf(a.Dims, dims)
	if !ok || !space.Name(as) || dimIndex(a.Dims, as) >= 0 || attrIndex(a.Attrs, as) >= 0 {
		return api.Array{}, api.ErrName
	}
	if len(a.Attrs) == api.MaxAttrs {
		return api.Array{}, api.ErrMany
	}
	values := valuesByPart(a.Cells, along, by)
	cells := make([]api.Cell, len(a.Cells))
	for k, c := range a.Cells {
		r := rank(values[partOf(c, along)], c.Vals[by])
		cells[k] = api.Cell{At: c.At, Vals: slices.Concat(c.Vals, []api.Val{r})}
	}
	return space.Make(a.Dims, slices.Concat(a.Attrs, []api.Attr{{Name: as, Type: api.TInt}}), cells)
}

// indexesOf returns the indexes of the dimensions with some names, and false if one of them is not there, or stands in front already.
func indexesOf(d []api.Dim, names []string) ([]int, bool) {
	var out []int
	for _, name := range names {
		k := dimIndex(d, name)
		if k < 0 || slices.Contains(out, k) {
			return nil, false
		}
		out = append(out, k)
	}
	return out, true
}

// partOf returns the coordinates of a cell along some dimensions. Cells for which they are the same are ranked together.
func partOf(c api.Cell, along []int) spot {
	var s spot
	for i, k := range along {
		s[i] = c.At[k]
	}
	return s
}

// valuesByPart returns the values of an attribute that are not missing, sorted, of the cells that are ranked together.
func valuesByPart(cells []api.Cell, along []int, attr int) map[spot][]api.Val {
	out := map[spot][]api.Val{}
	for _, c := range cells {
		if v := c.Vals[attr]; v.Kind != api.KMissing {
			s := partOf(c, along)
			out[s] = append(out[s], v)
		}
	}
	for _, l := range out {
		slices.SortFunc(l, exact.Order)
	}
	return out
}

// rank returns the rank of a value among sorted ones, or the value itself if it is missing.
func rank(l []api.Val, v api.Val) api.Val {
	if v.Kind == api.KMissing {
		return v
	}
	less, _ := slices.BinarySearchFunc(l, v, exact.Order)
	return integer(less + 1)
}
