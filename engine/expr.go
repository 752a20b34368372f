package engine

import (
	"iter"
	"slices"

	"tesseract/api"
)

// nodes yields the nodes of an expression with their paths, each one before its operands, from the left to the right. Each path is new memory.
func nodes(e api.Expr) iter.Seq2[[]int, api.Expr] {
	return func(yield func([]int, api.Expr) bool) { yieldNodes(nil, e, yield) }
}

// yieldNodes yields the nodes of the part of an expression that has a path, and reports whether more of them are wanted.
func yieldNodes(path []int, part api.Expr, yield func([]int, api.Expr) bool) bool {
	if !yield(path, part) {
		return false
	}
	for k, x := range part.Args {
		if !yieldNodes(append(slices.Clone(path), k), x, yield) {
			return false
		}
	}
	return true
}

// over returns a node with other operands.
func over(node api.Expr, operands ...api.Expr) api.Expr {
	node.Args = operands
	return node
}

// replaced returns an expression with another part at a path.
func replaced(e api.Expr, path []int, part api.Expr) api.Expr {
	if len(path) == 0 {
		return part
	}
	operands := slices.Clone(e.Args)
	operands[path[0]] = replaced(operands[path[0]], path[1:], part)
	return over(e, operands...)
}

// copied returns a well-formed expression in new memory, of which no two slices share any.
func copied(e api.Expr) api.Expr {
	e.Names, e.Lo, e.Hi = slices.Clone(e.Names), slices.Clone(e.Lo), slices.Clone(e.Hi)
	e.Dims, e.Aggs = slices.Clone(e.Dims), slices.Clone(e.Aggs)
	e.By = copiedScalar(e.By)
	e.Args = slices.Clone(e.Args)
	for k, x := range e.Args {
		e.Args[k] = copied(x)
	}
	return e
}

// copiedScalar returns a well-formed scalar in new memory.
func copiedScalar(s api.Scalar) api.Scalar {
	s.Args = slices.Clone(s.Args)
	for k, x := range s.Args {
		s.Args[k] = copiedScalar(x)
	}
	return s
}
