package engine_test

import (
	"slices"
	"testing"

	"tesseract/api"
	"tesseract/engine"
	"tesseract/query"
	"tesseract/space"
)

// dice makes numbers that look random, the same ones in each run.
type dice uint64

func (d *dice) next() uint64 {
	*d = *d*6364136223846793005 + 1442695040888963407
	x := uint64(*d)
	return x ^ x>>29
}

// from returns a number from lo to hi.
func (d *dice) from(lo, hi int) int { return lo + int(d.next()%uint64(hi-lo+1)) }

// pick returns one of the elements of a list.
func pick[E any](d *dice, l ...E) E { return l[d.from(0, len(l)-1)] }

// shuffled returns the elements of a list in any order.
func shuffled[E any](d *dice, l []E) []E {
	l = slices.Clone(l)
	for k := range l {
		i := d.from(0, k)
		l[k], l[i] = l[i], l[k]
	}
	return l
}

// many returns n elements.
func many[E any](n int, element func() E) []E {
	var out []E
	for range n {
		out = append(out, element())
	}
	return out
}

func num(n int64) api.Val       { return api.Val{Kind: api.KNum, N: n, D: 1} }
func none(reason int64) api.Val { return api.Val{Kind: api.KMissing, N: reason} }
func txt(s string) api.Val      { return api.Val{Kind: api.KText, S: s} }

func constant(v api.Val) api.Scalar           { return api.Scalar{Op: api.SConst, Val: v} }
func use(name string) api.Scalar              { return api.Scalar{Op: api.SAttr, Name: name} }
func along(name string) api.Scalar            { return api.Scalar{Op: api.SDim, Name: name} }
func op(n int, args ...api.Scalar) api.Scalar { return api.Scalar{Op: n, Args: args} }

func dim(name string, lo, hi int) api.Dim { return api.Dim{Name: name, Lo: lo, Hi: hi} }
func list(l ...int) []int                 { return l }
func names(l ...string) []string          { return l }
func scan(name string) api.Expr           { return api.Expr{Op: api.EScan, Name: name} }

// box returns the box with some bounds: the lower and the upper one for each dimension.
func box(l ...int) api.Box {
	var b api.Box
	for k := 0; k < len(l); k += 2 {
		b.Lo, b.Hi = append(b.Lo, l[k]), append(b.Hi, l[k+1])
	}
	return b
}

func sameBox(a, b api.Box) bool { return slices.Equal(a.Lo, b.Lo) && slices.Equal(a.Hi, b.Hi) }

// table is the string of the array of the document's examples.
const table = "dim x 0:3\ndim y 0:1\nattr v int\n0 0: 5\n1 0: 7\n1 1: ?1\n3 1: 2\n"

// parse returns the array of a string.
func parse(s string) api.Array {
	a, e := space.Parse(s)
	if e != api.OK {
		panic("not the string of an array: " + s)
	}
	return a
}

// read returns the expression of a string.
func read(s string) api.Expr {
	e, f := query.Read(s)
	if f != api.OK {
		panic("not the string of an expression: " + s)
	}
	return e
}

// text returns the string of an expression.
func text(e api.Expr) string {
	s, f := query.Print(e)
	if f != api.OK {
		panic("an expression without a string")
	}
	return s
}

// base is a database with the array of the document's examples, and others, some of which are open.
func base() api.DB {
	return api.DB{
		{Name: "t", Array: parse(table)},
		{Name: "u", Array: parse("dim y -1:4\nattr w text\nattr q rat\n0: 'a', 1/2\n1: 'it''s', ?7\n4: '', 3\n")},
		{Name: "o", Array: parse("dim p -4:*\nattr n int\n-4: 1\n0: 2\n5: 3\n1073741824: 4\n")},
		{Name: "t2", Array: parse("dim x -2:1\ndim y 0:1\nattr v int\n-2 1: 4\n0 0: 6\n1 1: 8\n")},
		{Name: "g", Array: parse("dim y 0:2\ndim z -1:1\nattr k int\nattr b bool\n0 -1: 3, true\n0 0: ?2, false\n2 1: 4, ?5\n")},
		{Name: "w2", Array: parse("dim x 0:5\ndim y 0:*\nattr v int\n0 0: 1\n2 7: 3\n5 3: ?4\n")},
	}
}

// with returns a database with one more array.
func with(db api.DB, name string, a api.Array) api.DB {
	return append(slices.Clone(db), api.Named{Name: name, Array: a})
}

// closed returns the arrays of a database without an open dimension.
func closed(db api.DB) api.DB {
	return slices.DeleteFunc(slices.Clone(db), func(x api.Named) bool {
		return slices.ContainsFunc(x.Array.Dims, func(d api.Dim) bool { return d.Hi == api.Open })
	})
}

// line returns an array with n cells along x.
func line(n int) api.Array {
	a := api.Array{Dims: []api.Dim{dim("x", 0, 9999)}, Attrs: []api.Attr{{Name: "v", Type: api.TInt}}}
	for k := range n {
		a.Cells = append(a.Cells, api.Cell{At: list(k), Vals: []api.Val{num(int64(k % 7))}})
	}
	return a
}

// letters are names.
const letters = "abcdefghijklmnopqrstuvwxyz"

// spoiled are databases that are not valid.
func spoiled() []api.DB {
	out := []api.DB{with(base(), "t", parse(table)), with(base(), "T", parse(table)), with(base(), "n", api.Array{}), with(base(), "n", line(api.MaxCells+1))}
	for _, a := range spoiledArrays() {
		out = append(out, with(base(), "n", a))
	}
	var full api.DB
	for k := range api.MaxArrays + 1 {
		full = with(full, letters[k:k+1], parse(table))
	}
	return append(out, full)
}

// spoiledArrays are arrays that are not valid.
func spoiledArrays() []api.Array {
	var out []api.Array
	for _, spoil := range []func(a *api.Array){
		func(a *api.Array) { a.Cells[3].Vals[0] = txt("a") },
		func(a *api.Array) { a.Cells[0], a.Cells[1] = a.Cells[1], a.Cells[0] },
		func(a *api.Array) { a.Cells[3].At[0] = 4 },
		func(a *api.Array) { a.Dims[1].Name = "v" },
		func(a *api.Array) { a.Attrs = nil },
	} {
		a := parse(table)
		spoil(&a)
		out = append(out, a)
	}
	return out
}

func isZero(a api.Array) bool { return len(a.Dims)+len(a.Attrs)+len(a.Cells) == 0 }

// isZeroExpr reports whether no field of an expression is set.
func isZeroExpr(e api.Expr) bool {
	return e.Op == 0 && e.Name == "" && e.Rule == 0 && len(e.Names)+len(e.Lo)+len(e.Hi)+len(e.Dims)+len(e.Aggs)+len(e.Args) == 0 &&
		e.By.Op == 0 && e.By.Name == "" && e.By.Val == api.Val{} && len(e.By.Args) == 0
}

func sameSchema(a, b api.Array) bool {
	return slices.Equal(a.Dims, b.Dims) && slices.Equal(a.Attrs, b.Attrs)
}

func sameArray(a, b api.Array) bool {
	return sameSchema(a, b) && slices.EqualFunc(a.Cells, b.Cells, func(a, b api.Cell) bool { return slices.Equal(a.At, b.At) && slices.Equal(a.Vals, b.Vals) })
}

// expect compares a result with an array, or with an error.
func expect(t *testing.T, what any, a api.Array, e api.Errno, want api.Array, f api.Errno) {
	t.Helper()
	if e != f {
		t.Fatalf("%v: error %d, not %d", what, e, f)
	}
	if e != api.OK && !isZero(a) {
		t.Fatalf("%v: an array together with the error %d", what, e)
	}
	if e == api.OK && !sameArray(a, want) {
		s, _ := space.Print(a)
		w, _ := space.Print(want)
		t.Fatalf("%v:\n%s\nnot\n%s", what, s, w)
	}
}

// refused checks that a result with statistics is an error, and nothing else.
func refused(t *testing.T, what any, a api.Array, n engine.Stats, e, want api.Errno) {
	t.Helper()
	if e != want || !isZero(a) || n != (engine.Stats{}) {
		t.Errorf("%v: %v %v, and the error %d, not %d", what, a, n, e, want)
	}
}

// must returns the array of a call that has no error.
func must(a api.Array, e api.Errno) api.Array {
	if e != api.OK {
		panic("an error")
	}
	return a
}

// specDepth and specNodes return the depth of an expression, and how many nodes it has.
func specDepth(e api.Expr) int {
	out := 0
	for _, x := range e.Args {
		out = max(out, specDepth(x))
	}
	return out + 1
}

func specNodes(e api.Expr) int {
	out := 1
	for _, x := range e.Args {
		out += specNodes(x)
	}
	return out
}

// cells returns an array with at most n cells near the lower bounds of its dimensions.
func (d *dice) cells(a api.Array, n int) api.Array {
	var cells []api.Cell
	for range n {
		var c api.Cell
		for _, x := range a.Dims {
			c.At = append(c.At, d.from(x.Lo, min(x.Lo+9, x.Hi, api.MaxCoord)))
		}
		for _, x := range a.Attrs {
			c.Vals = append(c.Vals, d.fitting(x.Type))
		}
		if !slices.ContainsFunc(cells, func(x api.Cell) bool { return slices.Equal(x.At, c.At) }) {
			cells = append(cells, c)
		}
	}
	return must(space.Make(a.Dims, a.Attrs, cells))
}

// fitting returns a value that fits a type.
func (d *dice) fitting(typ int) api.Val {
	if d.next()%6 == 0 {
		return none(int64(d.from(1, 9)))
	}
	switch typ {
	case api.TBool:
		return api.Val{Kind: api.KBool, N: int64(d.from(0, 1))}
	case api.TText:
		return txt(pick(d, "", "a", "it's"))
	case api.TRat:
		return pick(d, num(int64(d.from(-3, 3))), api.Val{Kind: api.KNum, N: int64(d.from(-3, 3)*2 + 1), D: 2})
	}
	return num(int64(d.from(-3, 6)))
}

// filled returns a database whose arrays have other cells.
func (d *dice) filled(db api.DB) api.DB {
	var out api.DB
	for _, x := range db {
		out = with(out, x.Name, d.cells(x.Array, d.from(0, 14)))
	}
	return out
}

// layout returns a layout for dimensions.
func (d *dice) layout(dims []api.Dim) api.Layout {
	for {
		l := api.Layout{Order: d.from(api.RowMajor, api.Tiled), Form: d.from(api.Dense, api.Coords), Codec: d.from(api.Plain, api.Lz)}
		for range dims {
			side := pick(d, 1, 2, 3, 5, 8, 64)
			l.Sides = append(l.Sides, side)
			l.Overlap = append(l.Overlap, min(pick(d, 0, 0, 1, 2, 16), side))
		}
		if l.Order == api.Tiled {
			l.Tile = d.from(1, 3)
		}
		if space.Layout(dims, l) == api.OK {
			return l
		}
	}
}

// store returns a store with the arrays of a database in any layouts.
func (d *dice) store(db api.DB) *engine.Store {
	s := engine.New()
	for _, x := range db {
		if e := s.Put(x.Name, x.Array, d.layout(x.Array.Dims)); e != api.OK {
			panic("an array that cannot be stored")
		}
	}
	return s
}

// box returns a box, near the lower bounds of dimensions or beyond their bounds.
func (d *dice) box(dims []api.Dim) api.Box {
	var b api.Box
	for _, x := range dims {
		lo := pick(d, x.Lo+d.from(-2, 6), x.Lo, x.Hi, min(x.Hi, api.MaxCoord)-d.from(0, 3))
		b.Lo = append(b.Lo, lo)
		b.Hi = append(b.Hi, pick(d, lo+d.from(0, 4), lo, x.Hi, x.Hi+1, api.MaxCoord, api.Open, lo-d.from(0, 1)))
	}
	return b
}

// schema returns the schema of an expression that has one.
func schema(db api.DB, e api.Expr) api.Array { return must(query.Schema(db, e)) }

// denoting returns an expression that has a schema for a database.
func (d *dice) denoting(db api.DB, depth int) api.Expr {
	e := scan(pick(d, db...).Name)
	if depth > 1 {
		e = d.denoting(db, depth-1)
	}
	for range depth {
		if x, is := d.above(db, e, d.from(api.ESub, api.ERank), depth); is {
			return x
		}
	}
	return e
}

// above returns an expression with an operation over an operand, and false if it has no schema.
func (d *dice) above(db api.DB, e api.Expr, n, depth int) (api.Expr, bool) {
	x := d.over(schema(db, e), n)
	x.Args = []api.Expr{e}
	if operands(n) == 2 {
		x.Args = shuffled(d, append(x.Args, d.partner(db, e, n, max(depth-1, 1))))
	}
	_, f := query.Schema(db, x)
	return x, f == api.OK
}

// partner returns an expression that can often be an operand of an operation together with another one.
func (d *dice) partner(db api.DB, e api.Expr, n, depth int) api.Expr {
	if n == api.ECross {
		e = d.denoting(db, 1)
		dimNames, attrNames := allNames(schema(db, e))
		return d.renamed(e, slices.Concat(dimNames, attrNames))
	}
	switch d.next() % 4 {
	case 0:
		return e
	case 1: // the same dimensions, and other attributes
		_, attrNames := allNames(schema(db, e))
		return d.renamed(e, attrNames)
	case 2: // other bounds
		x := d.over(schema(db, e), api.ESub)
		x.Args = []api.Expr{e}
		if _, f := query.Schema(db, x); f == api.OK {
			return x
		}
	}
	return d.denoting(db, depth)
}

// renamed returns an expression in which some names are replaced by new ones.
func (d *dice) renamed(e api.Expr, old []string) api.Expr {
	for k, name := range old {
		e = api.Expr{Op: api.ERename, Names: names(name, "r"+letters[k:k+1]+letters[d.from(0, 25):][:1]), Args: []api.Expr{e}}
	}
	return e
}

// operands returns how many operands an operation has.
func operands(n int) int {
	switch n {
	case api.EScan:
		return 0
	case api.EConcat, api.EJoin, api.ECross, api.EMerge:
		return 2
	}
	return 1
}

// allNames returns the names of the dimensions of an array, and those of its attributes.
func allNames(a api.Array) (dims, attrs []string) {
	for _, x := range a.Dims {
		dims = append(dims, x.Name)
	}
	for _, x := range a.Attrs {
		attrs = append(attrs, x.Name)
	}
	return dims, attrs
}

// over returns a node of an operation that is likely to have a schema if its first operand has that of a.
func (d *dice) over(a api.Array, n int) api.Expr {
	e := api.Expr{Op: n}
	dimNames, attrNames := allNames(a)
	all := shuffled(d, slices.Concat(dimNames, attrNames))
	fresh := "n" + letters[d.from(0, 25):][:1]
	switch n {
	case api.ESub:
		b := d.box(a.Dims)
		e.Lo, e.Hi = b.Lo, b.Hi
	case api.EFilter:
		e.By = d.typed(a, api.TBool, d.from(1, 3))
	case api.EApply:
		e.Name, e.By = fresh, d.typed(a, d.from(api.TBool, api.TText), 3)
	case api.EProject:
		e.Names = shuffled(d, attrNames)[:d.from(1, len(attrNames))]
	case api.ERename:
		e.Names = names(all[0], fresh)
	case api.EReshape:
		e.Dims = d.reshaped(a)
	case api.ETranspose:
		e.Names = shuffled(d, dimNames)
	case api.EConcat, api.EVary, api.ECumulate:
		e.Name = pick(d, dimNames...)
	case api.ERedim:
		e.Dims = d.moved(a, all)
		e.Names = all[len(e.Dims):min(len(all), 7)]
		e.Rule = d.from(api.Fail, api.Last)
	case api.EGroup:
		e.Dims = d.moved(a, all)
	case api.ERank:
		e.Name, e.Names = fresh, append(names(pick(d, attrNames...)), shuffled(d, dimNames)[:d.from(0, len(dimNames))]...)
	}
	d.reach(&e, a)
	if n >= api.EGroup && n <= api.ECumulate {
		for k := range d.from(1, 2) {
			e.Aggs = append(e.Aggs, api.Agg{Fn: pick(d, api.Count, d.from(api.Count, api.Distinct)), Attr: pick(d, attrNames...), As: names("a1", "a2")[k]})
		}
	}
	return e
}

// reach sets how far a regrid, a window or a vary reaches.
func (d *dice) reach(e *api.Expr, a api.Array) {
	switch e.Op {
	case api.ERegrid:
		e.Lo = many(len(a.Dims), func() int { return d.from(1, 3) })
	case api.EWindow:
		e.Lo = many(len(a.Dims), func() int { return d.from(0, 2) })
		e.Hi = many(len(a.Dims), func() int { return d.from(0, 2) })
	case api.EVary:
		e.Lo, e.Hi = list(d.from(0, 2)), list(d.from(0, 2))
	}
}

// moved returns one dimension or two of them with some of the names.
func (d *dice) moved(a api.Array, all []string) []api.Dim {
	var out []api.Dim
	for _, name := range all[:d.from(1, min(2, len(all)-1))] {
		x := pick(d, dim(name, -2, 9), dim(name, 0, 3), dim(name, -9, api.Open))
		if k := slices.IndexFunc(a.Dims, func(y api.Dim) bool { return y.Name == name }); k >= 0 && d.next()%2 == 0 {
			x = a.Dims[k]
		}
		out = append(out, x)
	}
	return out
}

// reshaped returns dimensions with as many coordinates as those of an array, if these are not open.
func (d *dice) reshaped(a api.Array) []api.Dim {
	volume, e := space.Volume(a.Dims)
	if e != api.OK || volume > 1<<20 {
		return []api.Dim{dim("r", 0, 0)}
	}
	out := []api.Dim{dim("r", -3, volume-4)}
	for _, n := range []int{2, 3} {
		if volume%n == 0 && d.next()%2 == 0 {
			return shuffled(d, []api.Dim{dim("r", -1, n-2), dim("r2", 5, 4+volume/n)})
		}
	}
	return out
}

// typed returns a scalar that is likely to have a type for an array.
func (d *dice) typed(a api.Array, typ, depth int) api.Scalar {
	var v api.Val
	for v.Kind == api.KMissing || typ == api.TRat && v.D == 1 {
		v = d.fitting(typ)
	}
	leaves := []api.Scalar{constant(v)}
	for _, x := range a.Attrs {
		if x.Type == typ {
			leaves = append(leaves, use(x.Name), use(x.Name))
		}
	}
	if typ == api.TInt {
		leaves = append(leaves, along(pick(d, a.Dims...).Name))
	}
	if depth == 1 {
		return pick(d, leaves...)
	}
	sub := func(typ int) api.Scalar { return d.typed(a, typ, depth-1) }
	switch typ {
	case api.TBool:
		x := d.from(api.TBool, api.TText)
		return pick(d, op(d.from(api.SEq, api.SGe), sub(x), sub(x)), op(api.SNot, sub(typ)), op(d.from(api.SAnd, api.SOr), sub(typ), sub(typ)), op(api.SMissing, sub(x)))
	case api.TInt:
		return pick(d, op(d.from(api.SAdd, api.SMul), sub(typ), sub(typ)), op(api.SNeg, sub(typ)), op(api.SFloor, sub(api.TRat)))
	case api.TRat:
		return pick(d, op(d.from(api.SAdd, api.SDiv), sub(typ), sub(typ)), op(api.SDiv, sub(api.TInt), sub(api.TInt)))
	}
	return pick(d, op(api.SElse, sub(typ), sub(typ)), op(api.SIf, sub(api.TBool), sub(typ), sub(typ)))
}
