package query_test

import (
	"math"
	"slices"
	"testing"

	"tesseract/api"
	"tesseract/query"
	"tesseract/space"
)

// dice makes numbers that look random, the same ones in each run.
type dice uint64

func (d *dice) next() uint64 {
	*d = *d*6364136223846793005 + 1442695040888963407
	x := uint64(*d)
	return x ^ x>>29
}

// from returns a number from lo to hi.
func (d *dice) from(lo, hi int) int { return lo + int(d.next()%uint64(hi-lo+1)) }

// pick returns one of the elements of a list.
func pick[E any](d *dice, l ...E) E { return l[d.from(0, len(l)-1)] }

// shuffled returns the elements of a list in any order.
func shuffled[E any](d *dice, l []E) []E {
	l = slices.Clone(l)
	for k := range l {
		i := d.from(0, k)
		l[k], l[i] = l[i], l[k]
	}
	return l
}

// many returns from lo to hi elements.
func many[E any](d *dice, lo, hi int, element func() E) []E {
	var out []E
	for range d.from(lo, hi) {
		out = append(out, element())
	}
	return out
}

func num(n int64) api.Val       { return rat(n, 1) }
func rat(n, d int64) api.Val    { return api.Val{Kind: api.KNum, N: n, D: d} }
func none(reason int64) api.Val { return api.Val{Kind: api.KMissing, N: reason} }
func txt(s string) api.Val      { return api.Val{Kind: api.KText, S: s} }

func boolean(is bool) api.Val {
	if is {
		return api.Val{Kind: api.KBool, N: 1}
	}
	return api.Val{Kind: api.KBool}
}

func constant(v api.Val) api.Scalar           { return api.Scalar{Op: api.SConst, Val: v} }
func use(name string) api.Scalar              { return api.Scalar{Op: api.SAttr, Name: name} }
func along(name string) api.Scalar            { return api.Scalar{Op: api.SDim, Name: name} }
func op(n int, args ...api.Scalar) api.Scalar { return api.Scalar{Op: n, Args: args} }

func dim(name string, lo, hi int) api.Dim { return api.Dim{Name: name, Lo: lo, Hi: hi} }
func dims(l ...api.Dim) []api.Dim         { return l }
func of(fn int, attr, as string) api.Agg  { return api.Agg{Fn: fn, Attr: attr, As: as} }
func aggs(l ...api.Agg) []api.Agg         { return l }
func list(l ...int) []int                 { return l }
func names(l ...string) []string          { return l }
func scan(name string) api.Expr           { return api.Expr{Op: api.EScan, Name: name} }
func args(l ...api.Expr) []api.Expr       { return l }
func only(e api.Expr, names ...string) api.Expr {
	return api.Expr{Op: api.EProject, Names: names, Args: args(e)}
}
func merged(a, b api.Expr) api.Expr { return api.Expr{Op: api.EMerge, Args: args(a, b)} }

// table is the string of the array of the document's examples.
const table = "dim x 0:3\ndim y 0:1\nattr v int\n0 0: 5\n1 0: 7\n1 1: ?1\n3 1: 2\n"

// parse returns the array of a string.
func parse(s string) api.Array {
	a, e := space.Parse(s)
	if e != api.OK {
		panic("not the string of an array: " + s)
	}
	return a
}

// base is a database with the array of the document's examples, and others.
func base() api.DB {
	return api.DB{
		{Name: "t", Array: parse(table)},
		{Name: "u", Array: parse("dim y -1:4\nattr w text\nattr q rat\n0: 'a', 1/2\n1: 'it''s', ?7\n4: '', 3\n")},
		{Name: "z", Array: parse("dim p 5:*\nattr b bool\n5: true\n9: false\n77: ?2\n")},
		{Name: "t2", Array: parse("dim x -2:1\ndim y 0:1\nattr v int\n-2 1: 4\n0 0: 6\n1 1: 8\n")},
	}
}

// with returns a database with one more array.
func with(db api.DB, name string, a api.Array) api.DB {
	return append(slices.Clone(db), api.Named{Name: name, Array: a})
}

// line returns an array with n cells along x.
func line(n int) api.Array {
	a := api.Array{Dims: dims(dim("x", 0, 9999)), Attrs: []api.Attr{{Name: "v", Type: api.TInt}}}
	for k := range n {
		a.Cells = append(a.Cells, api.Cell{At: list(k), Vals: []api.Val{num(int64(k % 7))}})
	}
	return a
}

// spoiled are databases that are not valid.
func spoiled() []api.DB {
	out := []api.DB{with(base(), "t", parse(table)), with(base(), "T", parse(table)), with(base(), "", parse(table)), with(base(), "n", api.Array{}), with(base(), "n", line(api.MaxCells+1))}
	wrong := parse(table)
	wrong.Cells[3].Vals[0] = txt("a")
	out = append(out, with(base(), "n", wrong), with(nil, "t", wrong))
	turned := parse(table)
	turned.Cells[0], turned.Cells[1] = turned.Cells[1], turned.Cells[0]
	out = append(out, with(base(), "n", turned))
	var full api.DB
	for k := range api.MaxArrays + 1 {
		full = with(full, string(rune('a'+k)), parse(table))
	}
	return append(out, full)
}

// read returns the expression of a string.
func read(s string) api.Expr {
	e, f := query.Read(s)
	if f != api.OK {
		panic("not the string of an expression: " + s)
	}
	return e
}

func isZero(a api.Array) bool { return len(a.Dims)+len(a.Attrs)+len(a.Cells) == 0 }

// isZeroExpr reports whether no field of an expression is set.
func isZeroExpr(e api.Expr) bool {
	return e.Op == 0 && e.Name == "" && e.Rule == 0 && len(e.Names)+len(e.Lo)+len(e.Hi)+len(e.Dims)+len(e.Aggs)+len(e.Args) == 0 && isZeroScalar(e.By)
}

func isZeroScalar(s api.Scalar) bool {
	return s.Op == 0 && s.Name == "" && s.Val == api.Val{} && len(s.Args) == 0
}

// sameScalar and sameExpr report whether all fields are equal, also of what is not well-formed.
func sameScalar(a, b api.Scalar) bool {
	return a.Op == b.Op && a.Name == b.Name && a.Val == b.Val && slices.EqualFunc(a.Args, b.Args, sameScalar)
}

func sameExpr(a, b api.Expr) bool {
	return a.Op == b.Op && a.Name == b.Name && a.Rule == b.Rule && slices.Equal(a.Names, b.Names) && slices.Equal(a.Lo, b.Lo) && slices.Equal(a.Hi, b.Hi) &&
		slices.Equal(a.Dims, b.Dims) && slices.Equal(a.Aggs, b.Aggs) && sameScalar(a.By, b.By) && slices.EqualFunc(a.Args, b.Args, sameExpr)
}

func sameSchema(a, b api.Array) bool {
	return slices.Equal(a.Dims, b.Dims) && slices.Equal(a.Attrs, b.Attrs)
}

func sameArray(a, b api.Array) bool {
	return sameSchema(a, b) && slices.EqualFunc(a.Cells, b.Cells, func(a, b api.Cell) bool { return slices.Equal(a.At, b.At) && slices.Equal(a.Vals, b.Vals) })
}

// expect compares a result with an array, or with an error.
func expect(t *testing.T, what any, a api.Array, e api.Errno, want api.Array, f api.Errno) {
	t.Helper()
	if e != f {
		t.Fatalf("%v: error %d, not %d", what, e, f)
	}
	if e != api.OK && !isZero(a) {
		t.Fatalf("%v: an array together with the error %d", what, e)
	}
	if e == api.OK && !sameArray(a, want) {
		s, _ := space.Print(a)
		w, _ := space.Print(want)
		t.Fatalf("%v:\n%s\nnot\n%s", what, s, w)
	}
}

// roomy returns a copy of a list with filled elements behind its end.
func roomy[E any](l []E, fill E) []E {
	out := make([]E, len(l), len(l)+3)
	copy(out, l)
	for k := len(l); k < cap(out); k++ {
		out[:cap(out)][k] = fill
	}
	return out
}

// spoil overwrites all elements of a list, also those behind its end.
func spoil[E any](l []E, with E) {
	l = l[:cap(l)]
	for k := range l {
		l[k] = with
	}
}

// deepScalar and deep return copies that share no memory, whose slices have filled elements behind their ends.
func deepScalar(s api.Scalar) api.Scalar {
	s.Args = roomy(s.Args, use("behind"))
	for k, x := range s.Args {
		s.Args[k] = deepScalar(x)
	}
	return s
}

func deep(e api.Expr) api.Expr {
	e.Names, e.Lo, e.Hi = roomy(e.Names, "behind"), roomy(e.Lo, -99), roomy(e.Hi, -99)
	e.Dims, e.Aggs, e.By = roomy(e.Dims, dim("behind", 0, 0)), roomy(e.Aggs, of(1, "", "behind")), deepScalar(e.By)
	e.Args = roomy(e.Args, scan("behind"))
	for k, x := range e.Args {
		e.Args[k] = deep(x)
	}
	return e
}

// spoilScalar and spoilExpr overwrite all memory of their arguments, differently for each part.
func spoilScalar(s api.Scalar, mark *int) {
	for _, x := range s.Args {
		spoilScalar(x, mark)
	}
	*mark++
	spoil(s.Args, api.Scalar{Op: *mark})
}

func spoilExpr(e api.Expr, mark *int) {
	for _, x := range e.Args {
		spoilExpr(x, mark)
	}
	*mark++
	spoil(e.Names, "spoiled")
	spoil(e.Lo, *mark)
	spoil(e.Hi, -*mark)
	spoil(e.Dims, dim("spoiled", *mark, 0))
	spoil(e.Aggs, of(*mark, "", ""))
	spoilScalar(e.By, mark)
	spoil(e.Args, api.Expr{Op: *mark})
}

// spoilArray overwrites all memory of an array.
func spoilArray(a api.Array) {
	for _, c := range a.Cells {
		spoil(c.At, -1)
		spoil(c.Vals, api.Val{Kind: 9})
	}
	spoil(a.Dims, dim("spoiled", 0, 0))
	spoil(a.Attrs, api.Attr{})
	spoil(a.Cells, api.Cell{})
}

// slots counts where the slices of an expression lie in memory.
func slots(e api.Expr, met map[any]int) {
	for _, p := range []any{first(e.Names), first(e.Lo), first(e.Hi), first(e.Dims), first(e.Aggs), first(e.Args)} {
		met[p]++
	}
	scalarSlots(e.By, met)
	for _, x := range e.Args {
		slots(x, met)
	}
}

func scalarSlots(s api.Scalar, met map[any]int) {
	met[first(s.Args)]++
	for _, x := range s.Args {
		scalarSlots(x, met)
	}
}

// first returns the address of the first element of a list, nil if there is none.
func first[E any](l []E) any {
	if cap(l) == 0 {
		return nil
	}
	return &l[:1][0]
}

// unshared checks that no two slices of an expression begin at the same place.
func unshared(t *testing.T, what any, e api.Expr) {
	t.Helper()
	met := map[any]int{}
	slots(e, met)
	for p, n := range met {
		if p != nil && n > 1 {
			t.Fatalf("%v: slices share memory", what)
		}
	}
}

// farNumbers are numbers at the ends of their type.
var farNumbers = []int{math.MinInt, math.MinInt + 1, -1 << 40, 1 << 40, math.MaxInt - 1, math.MaxInt}

// longName is the longest name.
const longName = "abcdefghi_12"

// name returns a name; some of them are words of the query language, or of strings.
func (d *dice) name() string {
	return pick(d, "a", "b", "x", "y", "v", "w", "sub", "select", "join", "count", "if", "true", "fail", "as", longName)
}

// integer returns any number.
func (d *dice) integer() int {
	return pick(d, d.from(-9, 9), d.from(0, 99), api.Open, -api.Open, api.Open+1, -api.MaxCoord, pick(d, farNumbers...))
}

// value returns a value that is not missing.
func (d *dice) value() api.Val {
	return pick(d, num(int64(d.from(-9, 9))), rat(int64(d.from(-4, 4)*2+1), pick(d, int64(2), 4, 1<<40)), num(pick(d, int64(api.MaxNum), -api.MaxNum)), boolean(true), boolean(false), txt(""), txt("it's"), txt("a, (b"), txt("'"), txt("''''''''''''''''"), txt("0123456789abc; ~"))
}

// scalar returns a well-formed scalar, in which names are any names.
func (d *dice) scalar(depth int) api.Scalar {
	if depth == 1 || d.next()%4 == 0 {
		return pick(d, constant(d.value()), use(d.name()), along(d.name()))
	}
	n := d.from(api.SNot, api.SIf)
	out := op(n, d.scalar(depth-1))
	if n >= api.SAdd {
		out.Args = append(out.Args, d.scalar(depth-1))
	}
	if n == api.SIf {
		out.Args = append(out.Args, d.scalar(depth-1))
	}
	return out
}

// dimension returns a valid dimension.
func (d *dice) dimension() api.Dim {
	lo := d.from(-9, 9)
	return pick(d, dim(d.name(), lo, lo+d.from(0, 9)), dim(d.name(), lo, api.Open), dim(d.name(), -api.MaxCoord, api.MaxCoord), dim(d.name(), api.MaxCoord, api.Open))
}

// aggregate returns an aggregate.
func (d *dice) aggregate() api.Agg {
	if d.next()%5 == 0 {
		return of(api.Count, "", d.name())
	}
	return of(d.from(api.Count, api.Distinct), d.name(), d.name())
}

// node returns a well-formed node of an operation, without operands. It denotes an array only by chance.
func (d *dice) node(n int) api.Expr {
	e := api.Expr{Op: n}
	switch n {
	case api.EScan, api.EConcat, api.EApply, api.EVary, api.ECumulate, api.ERank:
		e.Name = d.name()
	}
	switch n {
	case api.EProject, api.ERedim:
		e.Names = many(d, 1, api.MaxAttrs, d.name)
	case api.ERename:
		e.Names = many(d, 2, 2, d.name)
	case api.ETranspose:
		e.Names = many(d, 1, api.MaxDims, d.name)
	case api.ERank:
		e.Names = many(d, 1, 1+api.MaxDims, d.name)
	case api.ESub, api.EWindow:
		e.Lo = many(d, 1, api.MaxDims, d.integer)
		e.Hi = many(d, len(e.Lo), len(e.Lo), d.integer)
	case api.ERegrid:
		e.Lo = many(d, 1, api.MaxDims, d.integer)
	case api.EVary:
		e.Lo, e.Hi = list(d.integer()), list(d.integer())
	case api.EFilter, api.EApply:
		e.By = d.scalar(d.from(1, 4))
	}
	switch n {
	case api.EReshape, api.ERedim, api.EGroup:
		e.Dims = many(d, 1, api.MaxDims, d.dimension)
	}
	if n >= api.EGroup && n <= api.ECumulate {
		e.Aggs = many(d, 1, api.MaxAttrs, d.aggregate)
	}
	if n == api.ERedim {
		e.Rule = d.from(api.Fail, api.Last)
	}
	return e
}

// operands returns how many operands an operation has.
func operands(n int) int {
	switch n {
	case api.EScan:
		return 0
	case api.EConcat, api.EJoin, api.ECross, api.EMerge:
		return 2
	}
	return 1
}

// expr returns a well-formed expression.
func (d *dice) expr(depth int) api.Expr {
	for {
		if e := d.tree(depth); specNodes(e) <= api.MaxNodes {
			return e
		}
	}
}

func (d *dice) tree(depth int) api.Expr {
	if depth == 1 || d.next()%8 == 0 {
		return d.node(api.EScan)
	}
	e := d.node(d.from(api.ESub, api.ERank))
	e.Args = many(d, operands(e.Op), operands(e.Op), func() api.Expr { return d.tree(depth - 1) })
	return e
}

// specDepth and specNodes return the depth of an expression, and how many nodes it has.
func specDepth(e api.Expr) int {
	out := 0
	for _, x := range e.Args {
		out = max(out, specDepth(x))
	}
	return out + 1
}

func specNodes(e api.Expr) int {
	out := 1
	for _, x := range e.Args {
		out += specNodes(x)
	}
	return out
}

// cells returns an array with at most n cells near the lower bounds of its dimensions.
func (d *dice) cells(a api.Array, n int) api.Array {
	var cells []api.Cell
	for range n {
		var c api.Cell
		for _, x := range a.Dims {
			c.At = append(c.At, d.from(x.Lo, min(x.Lo+4, x.Hi, api.MaxCoord)))
		}
		for _, x := range a.Attrs {
			c.Vals = append(c.Vals, d.fitting(x.Type))
		}
		if !slices.ContainsFunc(cells, func(x api.Cell) bool { return slices.Equal(x.At, c.At) }) {
			cells = append(cells, c)
		}
	}
	out, e := space.Make(a.Dims, a.Attrs, cells)
	if e != api.OK {
		panic("an array that is not valid")
	}
	return out
}

// fitting returns a value that fits a type.
func (d *dice) fitting(typ int) api.Val {
	if d.next()%6 == 0 {
		return none(int64(d.from(1, 9)))
	}
	switch typ {
	case api.TBool:
		return boolean(d.next()%2 == 0)
	case api.TText:
		return txt(pick(d, "", "a", "it's"))
	case api.TRat:
		return pick(d, num(int64(d.from(-3, 3))), rat(int64(d.from(-3, 3)*2+1), 2))
	}
	return num(int64(d.from(-3, 6)))
}

// db returns a database whose arrays have the names, dimensions and attributes of base, but other cells.
func (d *dice) db() api.DB {
	var out api.DB
	for _, x := range base() {
		out = with(out, x.Name, d.cells(x.Array, d.from(0, 12)))
	}
	return out
}

// denoting returns an expression that has a schema for a database.
func (d *dice) denoting(db api.DB, depth int) api.Expr {
	e := scan(pick(d, db...).Name)
	if depth == 1 {
		return e
	}
	e = d.denoting(db, depth-1)
	for range 12 {
		a, f := query.Schema(db, e)
		if f != api.OK {
			panic("an expression without a schema")
		}
		x := d.over(a, d.from(api.ESub, api.ERank))
		x.Args = args(e)
		if operands(x.Op) == 2 {
			x.Args = shuffled(d, args(e, pick(d, e, d.denoting(db, d.from(1, depth-1)))))
		}
		if _, f := query.Schema(db, x); f == api.OK {
			return x
		}
	}
	return e
}

// over returns a node of an operation that is likely to have a schema if its first operand has that of a.
func (d *dice) over(a api.Array, n int) api.Expr {
	e := api.Expr{Op: n, Name: "n" + string(rune('a'+d.from(0, 25)))}
	var dimNames, attrNames []string
	for _, x := range a.Dims {
		dimNames = append(dimNames, x.Name)
	}
	for _, x := range a.Attrs {
		attrNames = append(attrNames, x.Name)
	}
	all := slices.Concat(dimNames, attrNames)
	switch n {
	case api.ESub:
		for _, x := range a.Dims {
			e.Lo = append(e.Lo, x.Lo+d.from(-1, 1))
			e.Hi = append(e.Hi, pick(d, api.Open, x.Lo+d.from(1, 5)))
		}
	case api.EFilter:
		e.By = d.typed(a, api.TBool, 3)
	case api.EApply:
		e.By = d.typed(a, d.from(api.TBool, api.TText), 3)
	case api.EProject:
		e.Names = shuffled(d, attrNames)[:d.from(1, len(attrNames))]
	case api.ERename:
		e.Names = names(pick(d, all...), e.Name)
	case api.EReshape:
		volume, _ := space.Volume(a.Dims)
		e.Dims = dims(dim("r", -3, volume-4))
	case api.ETranspose:
		e.Names = shuffled(d, dimNames)
	case api.EConcat, api.EVary, api.ECumulate:
		e.Name = pick(d, dimNames...)
	case api.ERedim:
		all = shuffled(d, all)
		e.Dims = dims(dim(all[0], -2, 9))
		e.Names = all[1:min(len(all), 7)]
		e.Rule = d.from(api.Fail, api.Last)
	case api.EGroup:
		e.Dims = dims(dim(pick(d, all...), -2, 9))
	case api.ERank:
		e.Names = append(names(pick(d, attrNames...)), shuffled(d, dimNames)[:d.from(0, len(dimNames))]...)
	}
	switch n {
	case api.ERegrid:
		e.Lo = many(d, len(a.Dims), len(a.Dims), func() int { return d.from(1, 3) })
	case api.EWindow:
		e.Lo = many(d, len(a.Dims), len(a.Dims), func() int { return d.from(0, 2) })
		e.Hi = many(d, len(a.Dims), len(a.Dims), func() int { return d.from(0, 2) })
	case api.EVary:
		e.Lo, e.Hi = list(d.from(0, 2)), list(d.from(0, 2))
	}
	if n >= api.EGroup && n <= api.ECumulate {
		for k := range d.from(1, 2) {
			e.Aggs = append(e.Aggs, of(pick(d, api.Count, d.from(api.Count, api.Distinct)), pick(d, attrNames...), names("a1", "a2")[k]))
		}
	}
	if n != api.EApply && n != api.EConcat && n != api.EVary && n != api.ECumulate && n != api.ERank {
		e.Name = ""
	}
	return e
}

// typed returns a scalar that is likely to have a type for an array.
func (d *dice) typed(a api.Array, typ, depth int) api.Scalar {
	leaves := []api.Scalar{constant(d.present(typ))}
	for _, x := range a.Attrs {
		if x.Type == typ {
			leaves = append(leaves, use(x.Name), use(x.Name))
		}
	}
	if typ == api.TInt {
		leaves = append(leaves, along(pick(d, a.Dims...).Name))
	}
	if depth == 1 {
		return pick(d, leaves...)
	}
	sub := func(typ int) api.Scalar { return d.typed(a, typ, depth-1) }
	switch typ {
	case api.TBool:
		x := d.from(api.TBool, api.TText)
		return pick(d, op(d.from(api.SEq, api.SGe), sub(x), sub(x)), op(api.SNot, sub(typ)), op(d.from(api.SAnd, api.SOr), sub(typ), sub(typ)), op(api.SMissing, sub(x)))
	case api.TInt:
		return pick(d, op(d.from(api.SAdd, api.SMul), sub(typ), sub(typ)), op(api.SNeg, sub(typ)), op(api.SFloor, sub(api.TRat)), op(api.SReason, sub(api.TText)))
	case api.TRat:
		return pick(d, op(d.from(api.SAdd, api.SDiv), sub(typ), sub(typ)), op(api.SDiv, sub(api.TInt), sub(api.TInt)))
	}
	return pick(d, op(api.SElse, sub(typ), sub(typ)), op(api.SIf, sub(api.TBool), sub(typ), sub(typ)))
}

// present returns a value that fits a type, and is not missing.
func (d *dice) present(typ int) api.Val {
	for {
		v := d.fitting(typ)
		if typ == api.TRat && v.D == 1 {
			v = rat(1, 2)
		}
		if v.Kind != api.KMissing {
			return v
		}
	}
}
