package system

import (
	"cmp"
	"slices"
	"strings"

	"tesseract/api"
	"tesseract/query"
	"tesseract/space"
)

// Source is a cell of an array of a database.
type Source struct {
	Name string
	At   []int
}

// Lineage returns the cells from which a cell of a result was computed.
func Lineage(db api.DB, e api.Expr, at []int) ([]Source, api.Errno) {
	a, f := query.Eval(db, e)
	if f != api.OK {
		return nil, f
	}
	if len(at) != len(a.Dims) {
		return nil, api.ErrShape
	}
	k, have := search(a.Cells, at)
	if !have {
		return nil, api.ErrNone
	}
	wanted := make([]bool, len(a.Cells))
	wanted[k] = true
	out := nodeOf(db, e).sources(wanted)
	slices.SortFunc(out, compared)
	return slices.CompactFunc(out, func(a, b Source) bool { return compared(a, b) == 0 }), api.OK
}

// Impact returns the cells of a result that were computed from a cell.
func Impact(db api.DB, e api.Expr, name string, at []int) ([][]int, api.Errno) {
	a, f := query.Eval(db, e)
	if f != api.OK {
		return nil, f
	}
	x, have := named(db, name, nameOf)
	if !have {
		return nil, api.ErrNone
	}
	if _, have := search(x.Array.Cells, at); !have {
		return nil, api.ErrNone
	}
	var out [][]int
	for k, is := range nodeOf(db, e).reached(Source{name, at}) {
		if is {
			out = append(out, slices.Clone(a.Cells[k].At))
		}
	}
	return out, api.OK
}

// compared compares sources by their names, and then by their coordinates.
func compared(a, b Source) int {
	return cmp.Or(strings.Compare(a.Name, b.Name), space.Compare(a.At, b.At))
}

// search returns the index of the cell at some coordinates, or where it would be, and whether there is one.
func search(cells []api.Cell, at []int) (int, bool) {
	return slices.BinarySearchFunc(cells, at, func(c api.Cell, at []int) int { return space.Compare(c.At, at) })
}

// sources returns the sources of some cells of the array that a node denotes. They can be there several times.
func (n *node) sources(wanted []bool) []Source {
	var out []Source
	below := make([][]bool, len(n.operands))
	for i, x := range n.operands {
		below[i] = make([]bool, len(x.array.Cells))
	}
	for k, c := range n.array.Cells {
		switch {
		case !wanted[k]:
		case n.expr.Op == api.EScan:
			out = append(out, Source{n.expr.Name, slices.Clone(c.At)})
		default:
			for i, l := range n.contributors(c) {
				for _, j := range l {
					below[i][j] = true
				}
			}
		}
	}
	for i, x := range n.operands {
		out = append(out, x.sources(below[i])...)
	}
	return out
}

// reached returns of which cells of the array that a node denotes a cell of the database is a source.
func (n *node) reached(s Source) []bool {
	out := make([]bool, len(n.array.Cells))
	if n.expr.Op == api.EScan {
		if k, have := search(n.array.Cells, s.At); have && n.expr.Name == s.Name {
			out[k] = true
		}
		return out
	}
	below := make([][]bool, len(n.operands))
	some := false
	for i, x := range n.operands {
		below[i] = x.reached(s)
		some = some || slices.Contains(below[i], true)
	}
	for k := range out {
		out[k] = some && n.isReached(n.array.Cells[k], below)
	}
	return out
}

// isReached reports whether a marked cell of an operand contributes to a cell.
func (n *node) isReached(c api.Cell, marked [][]bool) bool {
	for i, l := range n.contributors(c) {
		if slices.ContainsFunc(l, func(j int) bool { return marked[i][j] }) {
			return true
		}
	}
	return false
}
