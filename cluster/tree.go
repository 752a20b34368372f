package cluster

import (
	"slices"

	"tesseract/api"
	"tesseract/engine"
	"tesseract/query"
	"tesseract/space"
)

// tree is a node of an expression that has a schema. It is not changed, as the workers share it.
type tree struct {
	alone    api.Expr // a scan of a stored array, or the operation with scans of its inputs
	inputs   api.DB   // arrays without cells that stand for the operands, in their order, which is that of their names
	operands []*tree
}

// treeOf returns the tree of an expression that has a schema for a database.
func treeOf(db api.DB, e api.Expr) *tree {
	names := [...]string{"a", "b"}
	t := &tree{alone: e}
	t.alone.Args = nil
	for k, x := range e.Args {
		schema, _ := query.Schema(db, x)
		t.alone.Args = append(t.alone.Args, api.Expr{Op: api.EScan, Name: names[k]})
		t.inputs = append(t.inputs, api.Named{Name: names[k], Array: schema})
		t.operands = append(t.operands, treeOf(db, x))
	}
	return t
}

// value returns what a node denotes within its box. An operand without a box remains an array without cells.
// All operands are computed even if one has an error, as an error of reading comes before those of cells.
func (r *reader) value(t *tree, b api.Box) (api.Array, api.Errno) {
	if t.alone.Op == api.EScan {
		return r.read(t.alone.Name, b)
	}
	db := slices.Clone(t.inputs)
	needs, _ := engine.Needs(db, t.alone, b)
	first := api.OK
	for _, n := range needs {
		k := slices.IndexFunc(db, func(x api.Named) bool { return x.Name == n.Name })
		a, f := r.value(t.operands[k], n.Box)
		db[k].Array = a
		first = firstOf(first, f)
	}
	if first != api.OK {
		return api.Array{}, first
	}
	out, f := query.Eval(db, t.alone)
	if f != api.OK {
		return api.Array{}, f
	}
	return space.Cut(out, b)
}

// firstOf returns which one of two errors counts, of which the first one was met before the other one:
// one of reading, which can only be ErrLost, comes before those of cells.
func firstOf(a, b api.Errno) api.Errno {
	if a == api.OK || b == api.ErrLost {
		return b
	}
	return a
}
