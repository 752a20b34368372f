package query

import (
	"iter"
	"slices"

	"tesseract/algebra"
	"tesseract/api"
	"tesseract/space"
)

// kind is what the nodes of an operation have if they are well-formed, and what their strings look like.
type kind struct {
	word  string // stands in front of the operands
	args  int    // how many operands there are
	text  string // what stands behind the operands: letters for fields, and other bytes for themselves
	least int    // how many Names there are at least, if there are some
	most  int    // how many Names there are at most
}

// The letters of a text, and the fields that they stand for.
const (
	nameField     = 'n' // Name
	namesField    = 'N' // Names
	rangeField    = 'b' // Lo and Hi, with one element each
	boxField      = 'B' // Lo and Hi
	integersField = 'I' // Lo
	dimsField     = 'D' // Dims
	scalarField   = 'S' // By
	aggsField     = 'A' // Aggs
	ruleField     = 'R' // Rule
)

// kinds are the kinds of the operations, by their numbers.
var kinds = [...]kind{
	api.EScan:      {text: "n"},
	api.ESub:       {word: "sub", args: 1, text: "B"},
	api.EFilter:    {word: "filter", args: 1, text: "S"},
	api.EApply:     {word: "apply", args: 1, text: "n = S"},
	api.EProject:   {word: "project", args: 1, text: "N", least: 1, most: api.MaxAttrs},
	api.ERename:    {word: "rename", args: 1, text: "N", least: 2, most: 2},
	api.EReshape:   {word: "reshape", args: 1, text: "D"},
	api.ETranspose: {word: "transpose", args: 1, text: "N", least: 1, most: api.MaxDims},
	api.EConcat:    {word: "concat", args: 2, text: "n"},
	api.EJoin:      {word: "join", args: 2},
	api.ECross:     {word: "cross", args: 2},
	api.EMerge:     {word: "merge", args: 2},
	api.ERedim:     {word: "redim", args: 1, text: "D; N; R", least: 1, most: api.MaxAttrs},
	api.EGroup:     {word: "group", args: 1, text: "D; A"},
	api.ERegrid:    {word: "regrid", args: 1, text: "I; A"},
	api.EWindow:    {word: "window", args: 1, text: "B; A"},
	api.EVary:      {word: "vary", args: 1, text: "n b; A"},
	api.ECumulate:  {word: "cumulate", args: 1, text: "n; A"},
	api.ERank:      {word: "rank", args: 1, text: "N; n", least: 1, most: 1 + api.MaxDims},
}

// nodes yields the nodes of an expression, the operands of each one before itself, from the left to the right.
func nodes(e api.Expr) iter.Seq[api.Expr] {
	return func(yield func(api.Expr) bool) { yieldNodes(e, yield) }
}

// yieldNodes yields the nodes of an expression, and reports whether more of them are wanted.
func yieldNodes(e api.Expr, yield func(api.Expr) bool) bool {
	for _, x := range e.Args {
		if !yieldNodes(x, yield) {
			return false
		}
	}
	return yield(e)
}

// isWellFormed reports whether a node is well-formed, whatever its operands are.
func isWellFormed(e api.Expr) bool {
	if e.Op < api.EScan || e.Op > api.ERank || len(e.Args) != kinds[e.Op].args {
		return false
	}
	rest := e // what is left of the node without the fields that it has to have
	for _, letter := range kinds[e.Op].text {
		if !hasField(e, letter) {
			return false
		}
		rest = without(rest, letter)
	}
	return isBlank(rest)
}

// hasField reports whether a field of a node is as it has to be. For bytes that stand for themselves this is always so.
func hasField(e api.Expr, letter rune) bool {
	switch letter {
	case nameField:
		return space.Name(e.Name)
	case namesField:
		return all(e.Names, kinds[e.Op].least, kinds[e.Op].most, space.Name)
	case rangeField:
		return len(e.Lo) == 1 && len(e.Hi) == 1
	case boxField:
		return len(e.Lo) == len(e.Hi) && all(e.Lo, 1, api.MaxDims, isAny)
	case integersField:
		return all(e.Lo, 1, api.MaxDims, isAny)
	case dimsField:
		return all(e.Dims, 1, api.MaxDims, isDim)
	case scalarField:
		return isNamed(e.By)
	case aggsField:
		return all(e.Aggs, 1, api.MaxAttrs, isAgg)
	case ruleField:
		return e.Rule >= api.Fail && e.Rule <= api.Last
	}
	return true
}

// all reports whether a list has from least to most elements, and all of them are right.
func all[E any](l []E, least, most int, right func(E) bool) bool {
	return len(l) >= least && len(l) <= most && !slices.ContainsFunc(l, func(x E) bool { return !right(x) })
}

// isAny is for integers, of which all are right.
func isAny(int) bool { return true }

// isDim reports whether a dimension is valid.
func isDim(d api.Dim) bool {
	_, e := space.Whole([]api.Dim{d})
	return e == api.OK
}

// isAgg reports whether an aggregate can be one of a node.
func isAgg(a api.Agg) bool {
	if a.Fn < api.Count || a.Fn > api.Distinct || !space.Name(a.As) {
		return false
	}
	return space.Name(a.Attr) || a.Attr == "" && a.Fn == api.Count
}

// isNamed reports whether a scalar is well-formed, and all that it uses are names.
func isNamed(s api.Scalar) bool {
	return algebra.SameScalar(s, s) && all(algebra.Uses(s), 0, api.MaxNodes, space.Name)
}

// without returns a node without a field.
func without(e api.Expr, letter rune) api.Expr {
	switch letter {
	case nameField:
		e.Name = ""
	case namesField:
		e.Names = nil
	case rangeField, boxField:
		e.Lo, e.Hi = nil, nil
	case integersField:
		e.Lo = nil
	case dimsField:
		e.Dims = nil
	case scalarField:
		e.By = api.Scalar{}
	case aggsField:
		e.Aggs = nil
	case ruleField:
		e.Rule = 0
	}
	return e
}

// isBlank reports whether no field of a node is set, besides Op and Args.
func isBlank(e api.Expr) bool {
	return e.Name == "" && e.Rule == 0 && len(e.Names)+len(e.Lo)+len(e.Hi)+len(e.Dims)+len(e.Aggs) == 0 && isNoScalar(e.By)
}

// isNoScalar reports whether no field of a scalar is set.
func isNoScalar(s api.Scalar) bool {
	return s.Op == 0 && s.Name == "" && s.Val == api.Val{} && len(s.Args) == 0
}
