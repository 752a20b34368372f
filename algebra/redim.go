package algebra

import (
	"slices"

	"tesseract/api"
	"tesseract/space"
)

// Redim makes dimensions of attributes, and attributes of dimensions.
func Redim(a api.Array, dims []api.Dim, attrs []string, rule int) (api.Array, api.Errno) {
	if !valid(a) || rule < api.Fail || rule > api.Last {
		return api.Array{}, api.ErrArg
	}
	all := columnAttrs(a)
	have := attrNames(all)
	m := move{dims: dims, to: indexes(dimNames(dims), have), kept: indexes(attrs, have), rule: rule}
	if e := m.namesError(all); e != api.OK {
		return api.Array{}, e
	}
	if e := space.Schema(dims, chosen(all, m.kept)); e != api.OK {
		return api.Array{}, e
	}
	cells, e := m.moved(a.Cells)
	if e != api.OK {
		return api.Array{}, e
	}
	return space.Make(dims, chosen(all, m.kept), cells)
}

// columnAttrs returns the columns of an array as attributes: first its dimensions, whose values are coordinates, and then its attributes.
func columnAttrs(a api.Array) []api.Attr {
	out := make([]api.Attr, len(a.Dims))
	for k, d := range a.Dims {
		out[k] = api.Attr{Name: d.Name, Type: api.TInt}
	}
	return append(out, a.Attrs...)
}

// columnVals returns the values of a cell in these columns.
func columnVals(c api.Cell) []api.Val {
	out := make([]api.Val, len(c.At))
	for k, x := range c.At {
		out[k] = integer(x)
	}
	return append(out, c.Vals...)
}

// move is a redimension: the new dimensions, the columns from which coordinates along them are made, the columns that become attributes, and the rule.
// The index of a column that is not there is -1.
type move struct {
	dims     []api.Dim
	to, kept []int
	rule     int
}

// namesError returns ErrName if a column is not there, and ErrType if coordinates can't be made from one.
func (m move) namesError(all []api.Attr) api.Errno {
	for _, k := range m.to {
		if k < 0 {
			return api.ErrName
		}
		if all[k].Type != api.TInt {
			return api.ErrType
		}
	}
	if slices.Contains(m.kept, -1) {
		return api.ErrName
	}
	return api.OK
}

// moved returns the cells of the result, in the order of the first cells that were moved to their coordinates.
func (m move) moved(cells []api.Cell) ([]api.Cell, api.Errno) {
	where := map[spot]int{}
	var out []api.Cell
	for _, c := range cells {
		vals := columnVals(c)
		at, ok := m.target(vals)
		if !ok {
			continue
		}
		x := api.Cell{At: at, Vals: chosen(vals, m.kept)}
		k, met := where[spotOf(at)]
		switch {
		case !met:
			where[spotOf(at)] = len(out)
			out = append(out, x)
		case m.rule == api.Fail:
			return nil, api.ErrConflict
		case m.rule == api.Last:
			out[k] = x
		}
	}
	return out, api.OK
}

// target returns the coordinates to which a cell with some values in its columns is moved, and false if it is left out.
func (m move) target(vals []api.Val) ([]int, bool) {
	at := make([]int, len(m.dims))
	for k, v := range chosen(vals, m.to) {
		d := m.dims[k]
		if v.Kind == api.KMissing || v.N < int64(d.Lo) || v.N > int64(min(d.Hi, api.MaxCoord)) {
			return nil, false
		}
		at[k] = int(v.N)
	}
	return at, true
}
