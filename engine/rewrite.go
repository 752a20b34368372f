package engine

import (
	"slices"

	"tesseract/algebra"
	"tesseract/api"
	"tesseract/query"
	"tesseract/space"
)

// The functions of this file make the right sides of rules: e is the left side, and in is its first operand.

// operand returns X.
func operand(e api.Expr) api.Expr { return e.Args[0] }

// skipping returns the root over the operand of in.
func skipping(e api.Expr) api.Expr { return over(e, e.Args[0].Args[0]) }

// exchanged returns in over the root.
func exchanged(e api.Expr) api.Expr { return over(e.Args[0], skipping(e)) }

// cutTo returns a sub with the bounds of a box.
func cutTo(x api.Expr, b api.Box) api.Expr {
	return api.Expr{Op: api.ESub, Lo: b.Lo, Hi: b.Hi, Args: []api.Expr{x}}
}

// cutOnce returns one sub for two of them.
func cutOnce(e api.Expr) api.Expr {
	in := e.Args[0]
	bounds := func(k int) (lo, hi int) { return max(e.Lo[k], in.Lo[k]), min(e.Hi[k], in.Hi[k]) }
	return cutTo(in.Args[0], boxWith(len(e.Lo), bounds))
}

// cutOperands returns in with subs of its operands, whose dimensions in has with the same names.
func (s scope) cutOperands(e api.Expr) api.Expr {
	in := e.Args[0]
	var out []api.Expr
	for _, x := range in.Args {
		f := frame{result: s.dims(in), box: api.Box{Lo: e.Lo, Hi: e.Hi}, dims: s.dims(x)}
		out = append(out, cutTo(x, boxWith(len(f.dims), f.atName)))
	}
	return over(in, out...)
}

// needed returns the box that in needs of its operand for what the sub leaves of in.
func (s scope) needed(e api.Expr) api.Box {
	in := e.Args[0]
	return frame{node: in, result: s.dims(in), box: wholeOf(s.dims(e)), dims: s.dims(in.Args[0])}.needed()
}

// blocksFit reports whether the bounds of the blocks that a sub leaves are coordinates.
func (s scope) blocksFit(e api.Expr) bool {
	b, a := wholeOf(s.dims(e)), s.needed(e)
	for k := range b.Hi {
		if b.Hi[k] != api.Open && a.Hi[k] > api.MaxCoord {
			return false
		}
	}
	return true
}

// cutBlocks returns in with a sub of its operand.
func (s scope) cutBlocks(e api.Expr) api.Expr {
	in := e.Args[0]
	return over(in, cutTo(in.Args[0], s.needed(e)))
}

// neededPart returns the part of the whole box of its operand that in needs for what the sub leaves of in.
func (s scope) neededPart(e api.Expr) api.Box {
	out, _ := space.Inter(s.needed(e), wholeOf(s.dims(e.Args[0].Args[0])))
	return out
}

// needsLess reports whether this part is not all of it.
func (s scope) needsLess(e api.Expr) bool {
	part, whole := s.neededPart(e), wholeOf(s.dims(e.Args[0].Args[0]))
	return !slices.Equal(part.Lo, whole.Lo) || !slices.Equal(part.Hi, whole.Hi)
}

// cutNeeds returns the sub of in with a sub of its operand.
func (s scope) cutNeeds(e api.Expr) api.Expr {
	in := e.Args[0]
	return over(e, over(in, cutTo(in.Args[0], s.neededPart(e))))
}

// cutDims returns in with the dimensions that the sub has.
func (s scope) cutDims(e api.Expr) api.Expr {
	out := e.Args[0]
	out.Dims = s.dims(e)
	return out
}

// isTrue reports whether the root has the scalar that is true.
func isTrue(e api.Expr) bool {
	return algebra.SameScalar(e.By, api.Scalar{Op: api.SConst, Val: api.Val{Kind: api.KBool, N: 1}})
}

// uses reports whether a scalar uses a name.
func uses(s api.Scalar, name string) bool { return slices.Contains(algebra.Uses(s), name) }

// filteredOnce returns one filter for two of them.
func filteredOnce(e api.Expr) api.Expr {
	out := skipping(e)
	out.By = api.Scalar{Op: api.SAnd, Args: []api.Scalar{e.Args[0].By, e.By}}
	return out
}

// filteredBefore returns the rename of a filter.
func filteredBefore(e api.Expr) api.Expr {
	in, filter := e.Args[0], skipping(e)
	filter.By = algebra.Renamed(e.By, in.Names[1], in.Names[0])
	return over(in, filter)
}

// filteredOne returns in with a filter of the first operand that has all names that the filter uses, and false if there is none.
func (s scope) filteredOne(e api.Expr) (api.Expr, bool) {
	in := e.Args[0]
	for k, x := range in.Args {
		a, _ := query.Schema(s.db, x)
		if hasAll(a, algebra.Uses(e.By)) {
			return replaced(in, []int{k}, over(e, x)), true
		}
	}
	return api.Expr{}, false
}

// hasAll reports whether an array has dimensions or attributes with all of some names.
func hasAll(a api.Array, names []string) bool {
	have := map[string]bool{}
	for _, d := range a.Dims {
		have[d.Name] = true
	}
	for _, x := range a.Attrs {
		have[x.Name] = true
	}
	return !slices.ContainsFunc(names, func(name string) bool { return !have[name] })
}

// filteredBoth returns in with filters of its operands.
func filteredBoth(e api.Expr) api.Expr {
	in := e.Args[0]
	return over(in, over(e, in.Args[0]), over(e, in.Args[1]))
}

// regriddedOnce returns one regrid for two of them, and false if there is none.
func regriddedOnce(e api.Expr) (api.Expr, bool) {
	in, out := e.Args[0], skipping(e)
	out.Lo, out.Aggs = nil, nil
	for k, factor := range e.Lo {
		out.Lo = append(out.Lo, factor*in.Lo[k]) // above MaxCoord it is no factor, so that there is no schema
	}
	for _, x := range e.Aggs {
		y, is := aggregatedOnce(in.Aggs, x)
		if !is {
			return api.Expr{}, false
		}
		out.Aggs = append(out.Aggs, y)
	}
	return out, true
}

// aggregatedOnce returns the aggregate of cells that is the aggregate x of the results of others, and false if there is none.
func aggregatedOnce(others []api.Agg, x api.Agg) (api.Agg, bool) {
	k := slices.IndexFunc(others, func(y api.Agg) bool { return y.As == x.Attr })
	if k < 0 {
		return api.Agg{}, false
	}
	y := others[k]
	extreme := x.Fn == y.Fn && (x.Fn == api.Min || x.Fn == api.Max)
	if !extreme && (x.Fn != api.Sum || y.Fn != api.Count) {
		return api.Agg{}, false
	}
	return api.Agg{Fn: y.Fn, Attr: y.Attr, As: x.As}, true
}
