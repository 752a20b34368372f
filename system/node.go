package system

import (
	"slices"

	"tesseract/api"
	"tesseract/engine"
	"tesseract/query"
	"tesseract/space"
)

// node is a node of an expression that denotes an array.
type node struct {
	expr     api.Expr // a scan of an array of the database, or the operation with scans of its inputs
	inputs   api.DB   // arrays without cells that stand for the operands, in their order, which is that of their names
	operands []*node
	array    api.Array // what the node denotes; it can share memory with the database
}

// nodeOf returns the node of an expression that denotes an array for a database, with those below it.
func nodeOf(db api.DB, e api.Expr) *node {
	n := &node{expr: e}
	if e.Op == api.EScan {
		x, _ := named(db, e.Name, nameOf)
		n.array = x.Array
		return n
	}
	names := [...]string{"a", "b"}
	n.expr.Args = nil
	var full api.DB
	for k, x := range e.Args {
		operand := nodeOf(db, x)
		empty := api.Array{Dims: operand.array.Dims, Attrs: operand.array.Attrs}
		n.expr.Args = append(n.expr.Args, api.Expr{Op: api.EScan, Name: names[k]})
		n.inputs = append(n.inputs, api.Named{Name: names[k], Array: empty})
		n.operands = append(n.operands, operand)
		full = append(full, api.Named{Name: names[k], Array: operand.array})
	}
	n.array, _ = query.Eval(full, n.expr)
	return n
}

// contributors returns, for each operand, the indexes of its cells that contribute to a cell of what the node denotes.
// All of them are in what the cell needs, and for most operations these are all cells there.
func (n *node) contributors(c api.Cell) [][]int {
	out := make([][]int, len(n.operands))
	needs, _ := engine.Needs(n.inputs, n.expr, api.Box{Lo: c.At, Hi: c.At})
	for _, need := range needs {
		i := slices.IndexFunc(n.inputs, func(x api.Named) bool { return x.Name == need.Name })
		out[i] = n.operands[i].within(need.Box)
	}
	switch n.expr.Op {
	case api.EMerge:
		if len(out[0]) > 0 {
			out[1] = nil
		}
	case api.EVary:
		out[0] = n.around(out[0], c)
	case api.EGroup:
		out[0] = n.moved(out[0], c)
	case api.ERedim:
		out[0] = kept(n.moved(out[0], c), n.expr.Rule)
	}
	return out
}

// within returns the indexes of the cells in a box. Cells outside of its bounds as they are compared are not looked at.
func (n *node) within(b api.Box) []int {
	var out []int
	cells := n.array.Cells
	for k, _ := search(cells, b.Lo); k < len(cells) && space.Compare(cells[k].At, b.Hi) <= 0; k++ {
		if space.Has(b, cells[k].At) {
			out = append(out, k)
		}
	}
	return out
}

// around returns those of the cells of a line that are as near to a cell as a vary reaches.
func (n *node) around(line []int, c api.Cell) []int {
	k := slices.IndexFunc(line, func(j int) bool { return slices.Equal(n.operands[0].array.Cells[j].At, c.At) })
	return line[max(0, k-n.expr.Lo[0]):min(len(line), k+n.expr.Hi[0]+1)]
}

// moved returns those of some cells of the operand that are moved to the coordinates of a cell.
func (n *node) moved(l []int, c api.Cell) []int {
	a := n.operands[0].array
	return slices.DeleteFunc(l, func(j int) bool {
		for k, d := range n.expr.Dims {
			if x, have := coordinate(a, a.Cells[j], d.Name); !have || x != c.At[k] {
				return true
			}
		}
		return false
	})
}

// coordinate returns the coordinate of a cell along the dimension with a name, or the integer of the attribute with this name, and whether there is one.
func coordinate(a api.Array, c api.Cell, name string) (int, bool) {
	for k, d := range a.Dims {
		if d.Name == name {
			return c.At[k], true
		}
	}
	k := slices.IndexFunc(a.Attrs, func(x api.Attr) bool { return x.Name == name })
	return int(c.Vals[k].N), c.Vals[k].Kind == api.KNum
}

// kept returns the one of some cells that were moved to the same coordinates that a redimension keeps.
func kept(l []int, rule int) []int {
	if rule == api.Last {
		return l[len(l)-1:]
	}
	return l[:1]
}
