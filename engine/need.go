package engine

import (
	"math"
	"slices"

	"tesseract/api"
	"tesseract/space"
)

// frame is what the box of an operand follows from.
type frame struct {
	node    api.Expr
	result  []api.Dim // the dimensions of the array that the node denotes
	box     api.Box   // the box of the node
	operand int       // the index of the operand
	dims    []api.Dim // the dimensions of the operand
}

// needed returns the box that the node needs of the operand. It may reach beyond the whole box of the operand.
func (f frame) needed() api.Box { return boxWith(len(f.dims), f.bounds()) }

// bounds returns the function that says the bounds of the box along each dimension of the operand.
func (f frame) bounds() func(k int) (lo, hi int) {
	switch f.node.Op {
	case api.ERename:
		return f.atIndex
	case api.EReshape:
		return f.reshaped
	case api.EConcat:
		return f.shifted
	case api.ERedim:
		if f.node.Rule == api.Fail {
			return f.all
		}
	case api.ERegrid:
		return f.multiplied
	case api.EWindow:
		return f.widened
	case api.EVary:
		return f.allOfLine
	case api.ECumulate:
		return f.lineSoFar
	case api.ERank:
		return f.ranked
	}
	return f.atName
}

// all returns the bounds of the dimension.
func (f frame) all(k int) (lo, hi int) { return f.dims[k].Lo, f.dims[k].Hi }

// atIndex returns the bounds along the dimension that stands at the same place in the result.
func (f frame) atIndex(k int) (lo, hi int) { return f.box.Lo[k], f.box.Hi[k] }

// atName returns the bounds along the dimension with the same name; all coordinates, if the result has none.
func (f frame) atName(k int) (lo, hi int) {
	i := slices.IndexFunc(f.result, func(d api.Dim) bool { return d.Name == f.dims[k].Name })
	if i < 0 {
		return f.all(k)
	}
	return f.atIndex(i)
}

// reshaped returns bounds between which all cells are whose numbers are between those of the corners of the box.
func (f frame) reshaped(k int) (lo, hi int) {
	p, q := f.before(f.box.Lo), f.before(f.box.Hi)
	if !slices.Equal(p[:k], q[:k]) {
		return f.all(k)
	}
	return p[k], q[k]
}

// before returns the coordinates that a cell had before it was reshaped.
func (f frame) before(at []int) []int {
	number, _ := space.Index(f.result, at)
	out, _ := space.At(f.dims, number)
	return out
}

// shifted returns the bounds that the coordinates had before the operand was put behind the first one.
func (f frame) shifted(k int) (lo, hi int) {
	lo, hi = f.atName(k)
	if f.operand == 1 && f.dims[k].Name == f.node.Name {
		shift := f.result[k].Hi - f.dims[k].Hi // the last coordinate of the result is that of the operand
		return lo - shift, hi - shift
	}
	return lo, hi
}

// multiplied returns the bounds of the blocks.
func (f frame) multiplied(k int) (lo, hi int) {
	factor := f.node.Lo[k]
	lo, hi = f.atIndex(k)
	lo = min(lo, math.MaxInt/factor) * factor // the box can begin far behind the coordinates of an open dimension
	if hi == api.Open {
		return lo, api.Open
	}
	return lo, hi*factor + factor - 1
}

// widened returns the bounds with what windows reach beyond them.
func (f frame) widened(k int) (lo, hi int) {
	lo, hi = f.atIndex(k)
	if hi == api.Open {
		return lo - f.node.Lo[k], api.Open
	}
	return lo - f.node.Lo[k], hi + f.node.Hi[k]
}

// allOfLine returns all coordinates along the dimension of a line, as cells can be anywhere on it.
func (f frame) allOfLine(k int) (lo, hi int) {
	if f.dims[k].Name == f.node.Name {
		return f.all(k)
	}
	return f.atName(k)
}

// lineSoFar returns the coordinates along the dimension of a line up to the box.
func (f frame) lineSoFar(k int) (lo, hi int) {
	lo, hi = f.atName(k)
	if f.dims[k].Name == f.node.Name {
		lo = f.dims[k].Lo
	}
	return lo, hi
}

// ranked returns the bounds along a dimension that parts the cells that are ranked together from others, and all coordinates along the other ones.
func (f frame) ranked(k int) (lo, hi int) {
	if slices.Contains(f.node.Names[1:], f.dims[k].Name) {
		return f.atName(k)
	}
	return f.all(k)
}
