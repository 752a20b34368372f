package agg_test

import (
	"math"
	"math/big"
	"slices"
	"testing"

	"tesseract/agg"
	"tesseract/api"
	"tesseract/exact"
	"tesseract/space"
)

// dice makes numbers that look random, the same ones in each run.
type dice uint64

func (d *dice) next() uint64 {
	*d = *d*6364136223846793005 + 1442695040888963407
	x := uint64(*d)
	return x ^ x>>29
}

// from returns a number from lo to hi.
func (d *dice) from(lo, hi int) int { return lo + int(d.next()%uint64(hi-lo+1)) }

// pick returns one of the elements of a list.
func pick[E any](d *dice, l ...E) E { return l[d.from(0, len(l)-1)] }

// shuffled returns the elements of a list in any order.
func shuffled[E any](d *dice, l []E) []E {
	l = slices.Clone(l)
	for k := range l {
		i := d.from(0, k)
		l[k], l[i] = l[i], l[k]
	}
	return l
}

// number returns a value that is an integer, or, if rational is set, any number. Some of them are at the bounds of values.
func (d *dice) number(rational bool) api.Val {
	n := pick(d, int64(d.from(-3, 5)), int64(d.from(-3, 5)), int64(d.from(-1<<33, 1<<33)), 1<<31, -1<<31, 1<<31+1, -1<<31-1, most, -most, most-1)
	if !rational {
		return num(n)
	}
	r := big.NewRat(n, pick(d, 1, 1, 2, 3, int64(d.from(1, 60)), most, most-1))
	return value(r)
}

// value returns a value that fits a type; one of six is missing.
func (d *dice) value(typ int) api.Val {
	if d.next()%6 == 0 {
		return none(int64(d.from(1, 5)))
	}
	switch typ {
	case api.TBool:
		return boolean(d.next()%2 == 0)
	case api.TText:
		return txt(pick(d, "", "a", "ab", "it's", "b", "B"))
	}
	if d.next()%3 > 0 {
		return num(int64(d.from(-3, 5)))
	}
	return d.number(typ == api.TRat)
}

// dims returns dimensions with some names, some of them open or at a limit.
func (d *dice) dims(names ...string) []api.Dim {
	var out []api.Dim
	for _, name := range names {
		lo := d.from(-3, 2)
		switch d.next() % 8 {
		case 0:
			out = append(out, dim(name, lo, api.Open))
		case 1:
			out = append(out, dim(name, api.MaxCoord-d.from(0, 3), pick(d, api.MaxCoord, api.Open)))
		case 2:
			out = append(out, dim(name, -api.MaxCoord, -api.MaxCoord+d.from(0, 9)))
		default:
			out = append(out, dim(name, lo, lo+d.from(0, 7)))
		}
	}
	return out
}

// array returns an array with one to four dimensions, one to six attributes, and at most n cells near the lower bounds of the dimensions.
func (d *dice) array(n int) api.Array {
	dims := d.dims(shuffled(d, names("x", "y", "z", "w"))[:d.from(1, 4)]...)
	attrs := []api.Attr{attr("u", api.TInt), attr("v", api.TRat), attr("s", api.TText), attr("b", api.TBool), attr("i", api.TInt), attr("r", api.TRat)}
	return d.filled(dims, shuffled(d, attrs)[:d.from(1, 6)], n)
}

// filled returns an array with some dimensions and attributes, and at most n cells.
func (d *dice) filled(dims []api.Dim, attrs []api.Attr, n int) api.Array {
	var cells []api.Cell
	for range n {
		var c api.Cell
		for _, x := range dims {
			c.At = append(c.At, d.from(x.Lo, min(x.Lo+d.from(0, 6), x.Hi, api.MaxCoord)))
		}
		for _, x := range attrs {
			c.Vals = append(c.Vals, d.value(x.Type))
		}
		if !slices.ContainsFunc(cells, func(x api.Cell) bool { return slices.Equal(x.At, c.At) }) {
			cells = append(cells, c)
		}
	}
	return made(dims, attrs, cells)
}

// aggs returns a list of aggregates for an array, some of which have errors.
func (d *dice) aggs(a api.Array) []api.Agg {
	fresh := shuffled(d, names("a1", "a2", "a3", "a4", "a5", "a6", "a7"))
	n := pick(d, 0, 1, 1, 2, 2, 3, 4, 6, 6, 7)
	strange := d.next()%4 == 0
	var out []api.Agg
	for k := range n {
		x := api.Agg{Fn: d.from(api.Count, api.Distinct), Attr: pick(d, a.Attrs...).Name, As: fresh[k]}
		if _, e := agg.Type(x.Fn, attrType(a, x.Attr)); e != api.OK && !strange {
			x.Fn = pick(d, api.Count, api.Min, api.Max, api.Distinct)
		}
		if d.next()%6 == 0 {
			x = api.Agg{Fn: api.Count, As: fresh[k]}
		}
		if strange && d.next()%4 == 0 {
			x.Fn, x.Attr, x.As = pick(d, 0, 8, x.Fn, x.Fn), pick(d, "", "q", "x", x.Attr, x.Attr), pick(d, "", "A", "x", "u", "a1", x.As)
		}
		out = append(out, x)
	}
	return out
}

func num(n int64) api.Val       { return rat(n, 1) }
func rat(n, d int64) api.Val    { return api.Val{Kind: api.KNum, N: n, D: d} }
func none(reason int64) api.Val { return api.Val{Kind: api.KMissing, N: reason} }
func txt(s string) api.Val      { return api.Val{Kind: api.KText, S: s} }

func boolean(is bool) api.Val {
	if is {
		return api.Val{Kind: api.KBool, N: 1}
	}
	return api.Val{Kind: api.KBool}
}

func dim(name string, lo, hi int) api.Dim     { return api.Dim{Name: name, Lo: lo, Hi: hi} }
func dims(l ...api.Dim) []api.Dim             { return l }
func attr(name string, typ int) api.Attr      { return api.Attr{Name: name, Type: typ} }
func cell(at []int, vals ...api.Val) api.Cell { return api.Cell{At: at, Vals: vals} }
func list(at ...int) []int                    { return at }
func names(l ...string) []string              { return l }
func aggs(l ...api.Agg) []api.Agg             { return l }

func of(fn int, name, as string) api.Agg { return api.Agg{Fn: fn, Attr: name, As: as} }

// countOf is an aggregate that counts cells.
func countOf(as string) api.Agg { return api.Agg{Fn: api.Count, As: as} }

// most is the greatest number of a value.
const most = api.MaxNum

// functions returns all aggregate functions.
func functions() []int {
	return list(api.Count, api.Sum, api.Avg, api.Min, api.Max, api.Var, api.Distinct)
}

// ofNumbers reports whether a function has results for numbers alone.
func ofNumbers(fn int) bool { return fn == api.Sum || fn == api.Avg || fn == api.Var }

// farNumbers are numbers whose sums and differences do not fit.
var farNumbers = []int{math.MinInt, math.MinInt + 1, -1 << 40, 1 << 40, math.MaxInt - 1, math.MaxInt}

// table is the string of the array of the document's examples.
const table = "dim x 0:3\ndim y 0:1\nattr v int\n0 0: 5\n1 0: 7\n1 1: ?1\n3 1: 2\n"

// parse returns the array of a string.
func parse(s string) api.Array {
	a, e := space.Parse(s)
	if e != api.OK {
		panic("not the string of an array: " + s)
	}
	return a
}

// made returns the valid array with some cells in any order.
func made(dims []api.Dim, attrs []api.Attr, cells []api.Cell) api.Array {
	a, e := space.Make(dims, attrs, cells)
	if e != api.OK {
		panic("an array that is not valid")
	}
	return a
}

// line returns an array with n cells along one dimension.
func line(n int) api.Array {
	a := api.Array{Dims: dims(dim("x", 0, 9999)), Attrs: []api.Attr{attr("v", api.TInt)}}
	for k := range n {
		a.Cells = append(a.Cells, cell(list(k), num(int64(k))))
	}
	return a
}

// spoiled are arrays that are not valid.
func spoiled() []api.Array {
	var out []api.Array
	for _, change := range []func(a *api.Array){
		func(a *api.Array) { a.Dims = nil },
		func(a *api.Array) { a.Dims[0].Name = "X" },
		func(a *api.Array) { a.Dims[0].Hi = -1 },
		func(a *api.Array) { a.Attrs = nil },
		func(a *api.Array) { a.Attrs[0].Type = 5 },
		func(a *api.Array) { a.Cells[1].At = list(1) },
		func(a *api.Array) { a.Cells[1].Vals = nil },
		func(a *api.Array) { a.Cells[3].At = list(4, 1) },
		func(a *api.Array) { a.Cells[3].Vals[0] = rat(1, 2) },
		func(a *api.Array) { a.Cells[3].At = list(1, 1) },
		func(a *api.Array) { a.Cells[0], a.Cells[1] = a.Cells[1], a.Cells[0] },
	} {
		a := parse(table)
		change(&a)
		out = append(out, a)
	}
	return append(out, api.Array{}, line(api.MaxCells+1))
}

func sameCells(a, b []api.Cell) bool {
	return slices.EqualFunc(a, b, func(a, b api.Cell) bool { return slices.Equal(a.At, b.At) && slices.Equal(a.Vals, b.Vals) })
}

func sameArray(a, b api.Array) bool {
	return slices.Equal(a.Dims, b.Dims) && slices.Equal(a.Attrs, b.Attrs) && sameCells(a.Cells, b.Cells)
}

// expect compares a result with an array, or with an error.
func expect(t *testing.T, what any, a api.Array, e api.Errno, want api.Array, f api.Errno) {
	t.Helper()
	if e != f {
		t.Fatalf("%v: error %d, not %d", what, e, f)
	}
	if e != api.OK && len(a.Dims)+len(a.Attrs)+len(a.Cells) > 0 {
		t.Fatalf("%v: an array together with the error %d", what, e)
	}
	if e == api.OK && !sameArray(a, want) {
		s, _ := space.Print(a)
		w, _ := space.Print(want)
		t.Fatalf("%v:\n%s\nnot\n%s", what, s, w)
	}
	if e == api.OK && space.Check(a) != api.OK {
		t.Fatalf("%v: an array that is not valid", what)
	}
}

// expectString compares a result with the string of an array.
func expectString(t *testing.T, what any, a api.Array, e api.Errno, want string) {
	t.Helper()
	expect(t, what, a, e, parse(want), api.OK)
}

// expectError compares a result with an error.
func expectError(t *testing.T, what any, a api.Array, e, want api.Errno) {
	t.Helper()
	expect(t, what, a, e, api.Array{}, want)
}

// must returns the array of a call that has no error.
func must(a api.Array, e api.Errno) api.Array {
	if e != api.OK {
		panic("an error: " + string(rune('0'+e)))
	}
	return a
}

// The rest of this file computes what the chapter defines, as its words say it.

// value returns the value of a number.
func value(x *big.Rat) api.Val {
	limit := big.NewInt(most)
	if x.Num().CmpAbs(limit) > 0 || x.Denom().Cmp(limit) > 0 {
		return none(api.Over)
	}
	return rat(x.Num().Int64(), x.Denom().Int64())
}

// average returns the average of some numbers.
func average(l []*big.Rat) *big.Rat {
	sum := new(big.Rat)
	for _, x := range l {
		sum.Add(sum, x)
	}
	return sum.Quo(sum, big.NewRat(int64(len(l)), 1))
}

// specResult returns the result of a function for some values.
func specResult(fn int, vals []api.Val) api.Val {
	var l []api.Val
	var numbers, squares []*big.Rat
	for _, v := range vals {
		if v.Kind == api.KMissing {
			continue
		}
		l = append(l, v)
		if v.Kind == api.KNum {
			x := big.NewRat(v.N, v.D)
			numbers, squares = append(numbers, x), append(squares, new(big.Rat).Mul(x, x))
		}
	}
	switch fn {
	case api.Count:
		return num(int64(len(l)))
	case api.Distinct:
		slices.SortFunc(l, exact.Order)
		return num(int64(len(slices.Compact(l))))
	}
	if len(l) == 0 {
		return none(api.Empty)
	}
	switch fn {
	case api.Min:
		return slices.MinFunc(l, exact.Order)
	case api.Max:
		return slices.MaxFunc(l, exact.Order)
	case api.Avg:
		return value(average(numbers))
	case api.Var:
		mean := average(numbers)
		return value(new(big.Rat).Sub(average(squares), mean.Mul(mean, mean)))
	}
	sum := average(numbers)
	return value(sum.Mul(sum, big.NewRat(int64(len(l)), 1)))
}

// specType returns the type of the results, and 0 if there is none.
func specType(fn, typ int) int {
	switch {
	case fn == api.Count || fn == api.Distinct:
		return api.TInt
	case fn == api.Min || fn == api.Max || fn == api.Sum && (typ == api.TInt || typ == api.TRat):
		return typ
	case typ == api.TInt || typ == api.TRat:
		return api.TRat
	}
	return 0
}

// attrType returns the type of the attribute with a name, and 0 if there is none.
func attrType(a api.Array, name string) int {
	for _, x := range a.Attrs {
		if x.Name == name {
			return x.Type
		}
	}
	return 0
}

// valueOf returns the value that a cell of an array has of an attribute.
func valueOf(a api.Array, c api.Cell, name string) api.Val {
	for k, x := range a.Attrs {
		if x.Name == name {
			return c.Vals[k]
		}
	}
	panic("no such attribute")
}

func hasDim(d []api.Dim, name string) bool {
	return slices.ContainsFunc(d, func(x api.Dim) bool { return x.Name == name })
}

// specAttrs returns the result's attributes, or the error of aggregates.
func specAttrs(a api.Array, d []api.Dim, l []api.Agg) ([]api.Attr, api.Errno) {
	if len(l) < 1 || len(l) > 6 {
		return nil, api.ErrMany
	}
	var out []api.Attr
	for k, x := range l {
		typ := attrType(a, x.Attr)
		cells := x.Fn == api.Count && x.Attr == ""
		earlier := slices.ContainsFunc(l[:k], func(y api.Agg) bool { return y.As == x.As })
		switch {
		case !slices.Contains(functions(), x.Fn):
			return nil, api.ErrArg
		case !cells && typ == 0:
			return nil, api.ErrName
		case !cells && specType(x.Fn, typ) == 0:
			return nil, api.ErrType
		case !space.Name(x.As) || hasDim(d, x.As) || earlier:
			return nil, api.ErrName
		}
		out = append(out, attr(x.As, specType(x.Fn, typ)))
	}
	return out, api.OK
}

// specAggregates returns the aggregates of some cells.
func specAggregates(a api.Array, cells []api.Cell, l []api.Agg) []api.Val {
	var out []api.Val
	for _, x := range l {
		if x.Attr == "" {
			out = append(out, num(int64(len(cells))))
			continue
		}
		var vals []api.Val
		for _, c := range cells {
			vals = append(vals, valueOf(a, c, x.Attr))
		}
		out = append(out, specResult(x.Fn, vals))
	}
	return out
}

// specMoved returns the array of the aggregates of the cells that are moved to the same coordinates. Coordinates that are nil are those of a cell left out.
func specMoved(a api.Array, d []api.Dim, l []api.Agg, to func(api.Cell) []int) (api.Array, api.Errno) {
	attrs, e := specAttrs(a, d, l)
	if e != api.OK {
		return api.Array{}, e
	}
	var out []api.Cell
	for k, c := range a.Cells {
		at := to(c)
		same := func(x api.Cell) bool { return slices.Equal(to(x), at) }
		if at == nil || slices.ContainsFunc(a.Cells[:k], same) {
			continue
		}
		var part []api.Cell
		for _, x := range a.Cells {
			if same(x) {
				part = append(part, x)
			}
		}
		out = append(out, cell(at, specAggregates(a, part, l)...))
	}
	return made(d, attrs, out), api.OK
}

// specEach returns the array of the aggregates of the cells that belong to each cell.
func specEach(a api.Array, l []api.Agg, belongs func(c, other api.Cell) bool) (api.Array, api.Errno) {
	attrs, e := specAttrs(a, a.Dims, l)
	if e != api.OK {
		return api.Array{}, e
	}
	var out []api.Cell
	for _, c := range a.Cells {
		var part []api.Cell
		for _, x := range a.Cells {
			if belongs(c, x) {
				part = append(part, x)
			}
		}
		out = append(out, cell(c.At, specAggregates(a, part, l)...))
	}
	return made(a.Dims, attrs, out), api.OK
}
