package algebra

import (
	"slices"

	"tesseract/api"
	"tesseract/exact"
	"tesseract/space"
)

// Type returns the type of a scalar for cells of an array.
func Type(a api.Array, s api.Scalar) (int, api.Errno) {
	if !valid(a) {
		return 0, api.ErrArg
	}
	return typeOf(a, s)
}

// typeOf is Type for a valid array.
func typeOf(a api.Array, s api.Scalar) (int, api.Errno) {
	if e := formError(s); e != api.OK {
		return 0, e
	}
	return folded(s, func(part api.Scalar) (int, api.Errno) { return leafType(a, part) }, exact.Type)
}

// leafType returns the type of a part without Args.
func leafType(a api.Array, part api.Scalar) (int, api.Errno) {
	switch part.Op {
	case api.SAttr:
		k := slices.Index(attrNames(a.Attrs), part.Name)
		if k < 0 {
			return 0, api.ErrName
		}
		return a.Attrs[k].Type, api.OK
	case api.SDim:
		if !slices.Contains(dimNames(a.Dims), part.Name) {
			return 0, api.ErrName
		}
		return api.TInt, api.OK
	}
	return constantType(part.Val), api.OK
}

// constantType returns the type of a valid value that is not missing.
func constantType(v api.Val) int {
	switch {
	case v.Kind == api.KBool:
		return api.TBool
	case v.Kind == api.KText:
		return api.TText
	case v.D == 1:
		return api.TInt
	}
	return api.TRat
}

// Value returns the value of a scalar for a cell of an array.
func Value(a api.Array, s api.Scalar, c api.Cell) (api.Val, api.Errno) {
	if _, e := Type(a, s); e != api.OK {
		return api.Val{}, e
	}
	if !valid(api.Array{Dims: a.Dims, Attrs: a.Attrs, Cells: []api.Cell{c}}) {
		return api.Val{}, api.ErrArg
	}
	return evaluator(a, s)(c), api.OK
}

// evaluator returns the function that computes the values of a scalar, which must have a type, for cells of an array.
func evaluator(a api.Array, s api.Scalar) func(api.Cell) api.Val {
	dims, attrs := dimNames(a.Dims), attrNames(a.Attrs)
	return func(c api.Cell) api.Val {
		leaf := func(part api.Scalar) (api.Val, api.Errno) {
			switch part.Op {
			case api.SAttr:
				return c.Vals[slices.Index(attrs, part.Name)], api.OK
			case api.SDim:
				return integer(c.At[slices.Index(dims, part.Name)]), api.OK
			}
			return part.Val, api.OK
		}
		v, _ := folded(s, leaf, exact.Do) // a scalar with a type has a value for each cell
		return v
	}
}

// Filter returns the cells for which a scalar is true.
func Filter(a api.Array, by api.Scalar) (api.Array, api.Errno) {
	typ, e := Type(a, by)
	if e != api.OK {
		return api.Array{}, e
	}
	if typ != api.TBool {
		return api.Array{}, api.ErrType
	}
	value := evaluator(a, by)
	var cells []api.Cell
	for _, c := range a.Cells {
		if value(c) == (api.Val{Kind: api.KBool, N: 1}) {
			cells = append(cells, c)
		}
	}
	return space.Make(a.Dims, a.Attrs, cells)
}

// Apply adds an attribute that is computed.
func Apply(a api.Array, name string, by api.Scalar) (api.Array, api.Errno) {
	if !valid(a) {
		return api.Array{}, api.ErrArg
	}
	if !space.Name(name) || slices.Contains(allNames(a), name) {
		return api.Array{}, api.ErrName
	}
	if len(a.Attrs) == api.MaxAttrs {
		return api.Array{}, api.ErrMany
	}
	typ, e := typeOf(a, by)
	if e != api.OK {
		return api.Array{}, e
	}
	value := evaluator(a, by)
	cells := changed(a.Cells, func(c api.Cell) api.Cell {
		return api.Cell{At: c.At, Vals: slices.Concat(c.Vals, []api.Val{value(c)})}
	})
	return space.Make(a.Dims, slices.Concat(a.Attrs, []api.Attr{{Name: name, Type: typ}}), cells)
}
