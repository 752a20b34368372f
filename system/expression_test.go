package system_test

import (
	"slices"

	"tesseract/api"
	"tesseract/query"
	"tesseract/space"
)

// box returns a box, near the lower bounds of dimensions or beyond their bounds.
func (d *dice) box(dims []api.Dim) api.Box {
	var b api.Box
	for _, x := range dims {
		lo := pick(d, x.Lo+d.from(-2, 6), x.Lo, x.Hi, min(x.Hi, api.MaxCoord)-d.from(0, 3))
		b.Lo = append(b.Lo, lo)
		b.Hi = append(b.Hi, pick(d, lo+d.from(0, 4), lo, x.Hi, x.Hi+1, api.MaxCoord, api.Open, lo-d.from(0, 1)))
	}
	return b
}

// schema returns the schema of an expression that has one.
func schema(db api.DB, e api.Expr) api.Array { return must(query.Schema(db, e)) }

// denoting returns an expression that has a schema for a database.
func (d *dice) denoting(db api.DB, depth int) api.Expr {
	e := scan(pick(d, db...).Name)
	if depth > 1 {
		e = d.denoting(db, depth-1)
	}
	for range depth {
		if x, is := d.above(db, e, d.from(api.ESub, api.ERank), depth); is {
			return x
		}
	}
	return e
}

// above returns an expression with an operation over an operand, and false if it has no schema.
func (d *dice) above(db api.DB, e api.Expr, n, depth int) (api.Expr, bool) {
	x := d.over(schema(db, e), n)
	x.Args = []api.Expr{e}
	if operands(n) == 2 {
		x.Args = shuffled(d, append(x.Args, d.partner(db, e, n, max(depth-1, 1))))
	}
	_, f := query.Schema(db, x)
	return x, f == api.OK
}

// partner returns an expression that can often be an operand of an operation together with another one.
func (d *dice) partner(db api.DB, e api.Expr, n, depth int) api.Expr {
	if n == api.ECross {
		e = d.denoting(db, 1)
		dimNames, attrNames := allNames(schema(db, e))
		return d.renamed(e, slices.Concat(dimNames, attrNames))
	}
	switch d.next() % 4 {
	case 0:
		return e
	case 1: // the same dimensions, and other attributes
		_, attrNames := allNames(schema(db, e))
		return d.renamed(e, attrNames)
	case 2: // other bounds
		x := d.over(schema(db, e), api.ESub)
		x.Args = []api.Expr{e}
		if _, f := query.Schema(db, x); f == api.OK {
			return x
		}
	}
	return d.denoting(db, depth)
}

// renamed returns an expression in which some names are replaced by new ones.
func (d *dice) renamed(e api.Expr, old []string) api.Expr {
	for k, name := range old {
		e = api.Expr{Op: api.ERename, Names: names(name, "r"+letters[k:k+1]+letters[d.from(0, 25):][:1]), Args: []api.Expr{e}}
	}
	return e
}

// operands returns how many operands an operation has.
func operands(n int) int {
	switch n {
	case api.EScan:
		return 0
	case api.EConcat, api.EJoin, api.ECross, api.EMerge:
		return 2
	}
	return 1
}

// allNames returns the names of the dimensions of an array, and those of its attributes.
func allNames(a api.Array) (dims, attrs []string) {
	for _, x := range a.Dims {
		dims = append(dims, x.Name)
	}
	for _, x := range a.Attrs {
		attrs = append(attrs, x.Name)
	}
	return dims, attrs
}

// over returns a node of an operation that is likely to have a schema if its first operand has that of a.
func (d *dice) over(a api.Array, n int) api.Expr {
	e := api.Expr{Op: n}
	dimNames, attrNames := allNames(a)
	all := shuffled(d, slices.Concat(dimNames, attrNames))
	fresh := "n" + letters[d.from(0, 25):][:1]
	switch n {
	case api.ESub:
		b := d.box(a.Dims)
		e.Lo, e.Hi = b.Lo, b.Hi
	case api.EFilter:
		e.By = d.typed(a, api.TBool, d.from(1, 3))
	case api.EApply:
		e.Name, e.By = fresh, d.typed(a, d.from(api.TBool, api.TText), 3)
	case api.EProject:
		e.Names = shuffled(d, attrNames)[:d.from(1, len(attrNames))]
	case api.ERename:
		e.Names = names(all[0], fresh)
	case api.EReshape:
		e.Dims = d.reshaped(a)
	case api.ETranspose:
		e.Names = shuffled(d, dimNames)
	case api.EConcat, api.EVary, api.ECumulate:
		e.Name = pick(d, dimNames...)
	case api.ERedim:
		e.Dims = d.moved(a, all)
		e.Names = all[len(e.Dims):min(len(all), 7)]
		e.Rule = d.from(api.Fail, api.Last)
	case api.EGroup:
		e.Dims = d.moved(a, all)
	case api.ERank:
		e.Name, e.Names = fresh, append(names(pick(d, attrNames...)), shuffled(d, dimNames)[:d.from(0, len(dimNames))]...)
	}
	d.reach(&e, a)
	if n >= api.EGroup && n <= api.ECumulate {
		for k := range d.from(1, 2) {
			e.Aggs = append(e.Aggs, api.Agg{Fn: pick(d, api.Count, d.from(api.Count, api.Distinct)), Attr: pick(d, attrNames...), As: names("a1", "a2")[k]})
		}
	}
	return e
}

// reach sets how far a regrid, a window or a vary reaches.
func (d *dice) reach(e *api.Expr, a api.Array) {
	switch e.Op {
	case api.ERegrid:
		e.Lo = many(len(a.Dims), func() int { return d.from(1, 3) })
	case api.EWindow:
		e.Lo = many(len(a.Dims), func() int { return d.from(0, 2) })
		e.Hi = many(len(a.Dims), func() int { return d.from(0, 2) })
	case api.EVary:
		e.Lo, e.Hi = list(d.from(0, 2)), list(d.from(0, 2))
	}
}

// moved returns one dimension or two of them with some of the names.
func (d *dice) moved(a api.Array, all []string) []api.Dim {
	var out []api.Dim
	for _, name := range all[:d.from(1, min(2, len(all)-1))] {
		x := pick(d, dim(name, -2, 9), dim(name, 0, 3), dim(name, -9, api.Open))
		if k := slices.IndexFunc(a.Dims, func(y api.Dim) bool { return y.Name == name }); k >= 0 && d.next()%2 == 0 {
			x = a.Dims[k]
		}
		out = append(out, x)
	}
	return out
}

// reshaped returns dimensions with as many coordinates as those of an array, if these are not open.
func (d *dice) reshaped(a api.Array) []api.Dim {
	volume, e := space.Volume(a.Dims)
	if e != api.OK || volume > 1<<20 {
		return []api.Dim{dim("r", 0, 0)}
	}
	out := []api.Dim{dim("r", -3, volume-4)}
	for _, n := range []int{2, 3} {
		if volume%n == 0 && d.next()%2 == 0 {
			return shuffled(d, []api.Dim{dim("r", -1, n-2), dim("r2", 5, 4+volume/n)})
		}
	}
	return out
}

// typed returns a scalar that is likely to have a type for an array.
func (d *dice) typed(a api.Array, typ, depth int) api.Scalar {
	var v api.Val
	for v.Kind == api.KMissing || typ == api.TRat && v.D == 1 {
		v = d.fitting(typ)
	}
	leaves := []api.Scalar{constant(v)}
	for _, x := range a.Attrs {
		if x.Type == typ {
			leaves = append(leaves, use(x.Name), use(x.Name))
		}
	}
	if typ == api.TInt {
		leaves = append(leaves, along(pick(d, a.Dims...).Name))
	}
	if depth == 1 {
		return pick(d, leaves...)
	}
	sub := func(typ int) api.Scalar { return d.typed(a, typ, depth-1) }
	switch typ {
	case api.TBool:
		x := d.from(api.TBool, api.TText)
		return pick(d, op(d.from(api.SEq, api.SGe), sub(x), sub(x)), op(api.SNot, sub(typ)), op(d.from(api.SAnd, api.SOr), sub(typ), sub(typ)), op(api.SMissing, sub(x)))
	case api.TInt:
		return pick(d, op(d.from(api.SAdd, api.SMul), sub(typ), sub(typ)), op(api.SNeg, sub(typ)), op(api.SFloor, sub(api.TRat)))
	case api.TRat:
		return pick(d, op(d.from(api.SAdd, api.SDiv), sub(typ), sub(typ)), op(api.SDiv, sub(api.TInt), sub(api.TInt)))
	}
	return pick(d, op(api.SElse, sub(typ), sub(typ)), op(api.SIf, sub(api.TBool), sub(typ), sub(typ)))
}

// separate returns an expression whose scans have different names, and a database for it with other cells for each of them.
func (d *dice) separate(db api.DB, e api.Expr) (api.Expr, api.DB) {
	var out api.DB
	var visit func(e api.Expr) api.Expr
	visit = func(e api.Expr) api.Expr {
		if e.Op == api.EScan {
			a, _ := space.Find(db, e.Name)
			name := "s" + letters[len(out):][:1]
			out = with(out, name, d.cells(a, d.from(0, 14)))
			return scan(name)
		}
		e.Args = slices.Clone(e.Args)
		for k, x := range e.Args {
			e.Args[k] = visit(x)
		}
		return e
	}
	return visit(e), out
}
