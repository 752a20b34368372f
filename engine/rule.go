package engine

import (
	"tesseract/api"
	"tesseract/query"
	"tesseract/space"
)

// rule is a rewriting rule, for expressions whose root has the operation outer, and its first operand the operation inner (if inner is not 0).
// Its closure returns the right side, and false if the condition does not hold. It does not see to what follows
// from the right side having the same schema, which is examined for all rules.
type rule struct {
	name         string
	outer, inner int
	right        func(e api.Expr) (api.Expr, bool)
}

// rules returns the rewriting rules.
func (s scope) rules() []rule {
	return []rule{
		{"sub-sub", api.ESub, api.ESub, always(cutOnce)},
		{"sub-whole", api.ESub, 0, always(operand)},
		{"sub-filter", api.ESub, api.EFilter, always(s.cutOperands)},
		{"sub-apply", api.ESub, api.EApply, always(s.cutOperands)},
		{"sub-project", api.ESub, api.EProject, always(s.cutOperands)},
		{"sub-rename", api.ESub, api.ERename, always(exchanged)},
		{"sub-transpose", api.ESub, api.ETranspose, always(s.cutOperands)},
		{"sub-merge", api.ESub, api.EMerge, always(s.cutOperands)},
		{"sub-join", api.ESub, api.EJoin, always(s.cutOperands)},
		{"sub-cross", api.ESub, api.ECross, always(s.cutOperands)},
		{"sub-regrid", api.ESub, api.ERegrid, when(s.blocksFit, s.cutBlocks)},
		{"sub-window", api.ESub, api.EWindow, when(s.needsLess, s.cutNeeds)},
		{"sub-vary", api.ESub, api.EVary, when(s.needsLess, s.cutNeeds)},
		{"sub-cumulate", api.ESub, api.ECumulate, when(s.needsLess, s.cutNeeds)},
		{"sub-group", api.ESub, api.EGroup, always(s.cutDims)},
		{"sub-redim", api.ESub, api.ERedim, when(func(e api.Expr) bool { return e.Args[0].Rule != api.Fail }, s.cutDims)},
		{"filter-true", api.EFilter, 0, when(isTrue, operand)},
		{"filter-filter", api.EFilter, api.EFilter, always(filteredOnce)},
		{"filter-apply", api.EFilter, api.EApply, always(exchanged)},
		{"filter-project", api.EFilter, api.EProject, always(exchanged)},
		{"filter-rename", api.EFilter, api.ERename, always(filteredBefore)},
		{"filter-transpose", api.EFilter, api.ETranspose, always(exchanged)},
		{"filter-join", api.EFilter, api.EJoin, s.filteredOne},
		{"filter-cross", api.EFilter, api.ECross, s.filteredOne},
		{"filter-concat", api.EFilter, api.EConcat, when(func(e api.Expr) bool { return !uses(e.By, e.Args[0].Name) }, filteredBoth)},
		{"project-project", api.EProject, api.EProject, always(skipping)},
		{"project-apply", api.EProject, api.EApply, always(skipping)},
		{"project-all", api.EProject, 0, always(operand)},
		{"transpose-transpose", api.ETranspose, api.ETranspose, always(skipping)},
		{"transpose-same", api.ETranspose, 0, always(operand)},
		{"merge-same", api.EMerge, 0, when(func(e api.Expr) bool { return query.Same(e.Args[0], e.Args[1]) }, operand)},
		{"regrid-regrid", api.ERegrid, api.ERegrid, regriddedOnce},
	}
}

// when returns the closure of a rule with a condition.
func when(holds func(e api.Expr) bool, right func(e api.Expr) api.Expr) func(e api.Expr) (api.Expr, bool) {
	return func(e api.Expr) (api.Expr, bool) {
		if !holds(e) {
			return api.Expr{}, false
		}
		return right(e), true
	}
}

// always returns the closure of a rule without a condition.
func always(right func(e api.Expr) api.Expr) func(e api.Expr) (api.Expr, bool) {
	return when(func(e api.Expr) bool { return true }, right)
}

// scope is where expressions are rewritten: a database without cells.
type scope struct{ db api.DB }

// dims returns the dimensions of the schema of an expression.
func (s scope) dims(e api.Expr) []api.Dim {
	a, _ := query.Schema(s.db, e)
	return a.Dims
}

// rewritten returns what a rule makes of an expression that has a schema, and false if it cannot be applied at the root.
func (s scope) rewritten(r rule, e api.Expr) (api.Expr, bool) {
	if e.Op != r.outer || r.inner != 0 && e.Args[0].Op != r.inner {
		return api.Expr{}, false
	}
	out, is := r.right(e)
	if !is {
		return api.Expr{}, false
	}
	before, _ := query.Schema(s.db, e)
	after, _ := query.Schema(s.db, out) // with an error it is no valid array, and the same as no other one
	return out, space.Same(before, after)
}

// step returns a well-formed expression in which a rule was applied to the node at a path, and the name of the first such rule; false if there is none.
func (s scope) step(e api.Expr, path []int, node api.Expr) (api.Expr, string, bool) {
	for _, r := range s.rules() {
		part, is := s.rewritten(r, node)
		if !is {
			continue
		}
		if out := replaced(e, path, part); query.Check(out) == api.OK {
			return out, r.name, true
		}
	}
	return api.Expr{}, "", false
}
