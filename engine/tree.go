package engine

import (
	"iter"

	"tesseract/api"
	"tesseract/query"
	"tesseract/space"
)

// tree is a node of an expression that has a schema, with its operands. It is placed in one box after the other.
type tree struct {
	expr     api.Expr
	schema   api.Array // the array that it denotes, without cells
	operands []*tree
	box      api.Box   // its box, if it has one
	boxed    bool      // whether it has a box
	cells    api.Array // for a scan that has a box: the cells that were read
}

// treeOf returns the tree of an expression that has a schema, for a database without cells.
func treeOf(db api.DB, e api.Expr) *tree {
	t := &tree{expr: e}
	var schemas []api.Array
	for _, x := range e.Args {
		operand := treeOf(db, x)
		t.operands = append(t.operands, operand)
		schemas = append(schemas, operand.schema)
	}
	if e.Op == api.EScan {
		t.schema, _ = query.Schema(db, e)
	} else {
		t.schema, _ = applied(e, schemas)
	}
	return t
}

// applied returns the array that a node denotes if its operands denote some arrays.
func applied(e api.Expr, l []api.Array) (api.Array, api.Errno) {
	names := [...]string{"a", "b"}
	db := make(api.DB, len(l))
	e.Args = make([]api.Expr, len(l))
	for k, a := range l {
		db[k] = api.Named{Name: names[k], Array: a}
		e.Args[k] = api.Expr{Op: api.EScan, Name: names[k]}
	}
	return query.Eval(db, e)
}

// frame returns what the box of an operand follows from.
func (t *tree) frame(k int) frame {
	return frame{node: t.expr, result: t.schema.Dims, box: t.box, operand: k, dims: t.operands[k].schema.Dims}
}

// place gives the nodes their boxes, for a box of which the root gets the common part with its whole box.
func (t *tree) place(b api.Box) {
	t.box, t.boxed = space.Inter(b, wholeOf(t.schema.Dims))
	for k, x := range t.operands {
		if t.boxed {
			x.place(t.frame(k).needed())
		} else {
			x.place(api.Box{}) // it has no common part with any box
		}
	}
}

// scans yields the scans that have a box, from the left to the right.
func (t *tree) scans() iter.Seq[*tree] {
	return func(yield func(*tree) bool) { t.yieldScans(yield) }
}

// yieldScans yields the scans that have a box, and reports whether more of them are wanted.
func (t *tree) yieldScans(yield func(*tree) bool) bool {
	if t.expr.Op == api.EScan && t.boxed {
		return yield(t)
	}
	for _, x := range t.operands {
		if !x.yieldScans(yield) {
			return false
		}
	}
	return true
}

// value returns what the node denotes within its box, where all scans were read; without a box no cells.
func (t *tree) value() (api.Array, api.Errno) {
	if !t.boxed {
		return t.schema, api.OK
	}
	if t.expr.Op == api.EScan {
		return t.cells, api.OK
	}
	l := make([]api.Array, len(t.operands))
	for k, x := range t.operands {
		a, f := x.value()
		if f != api.OK {
			return api.Array{}, f
		}
		l[k] = a
	}
	out, f := applied(t.expr, l)
	if f != api.OK {
		return api.Array{}, f
	}
	return space.Cut(out, t.box)
}
