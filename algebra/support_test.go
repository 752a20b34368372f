package algebra_test

import (
	"math"
	"slices"
	"testing"

	"tesseract/algebra"
	"tesseract/api"
	"tesseract/exact"
	"tesseract/space"
)

// dice makes numbers that look random, the same ones in each run.
type dice uint64

func (d *dice) next() uint64 {
	*d = *d*6364136223846793005 + 1442695040888963407
	x := uint64(*d)
	return x ^ x>>29
}

// from returns a number from lo to hi.
func (d *dice) from(lo, hi int) int { return lo + int(d.next()%uint64(hi-lo+1)) }

// pick returns one of the elements of a list.
func pick[E any](d *dice, l ...E) E { return l[d.from(0, len(l)-1)] }

// value returns a value that fits a type. Integers are often coordinates.
func (d *dice) value(typ int) api.Val {
	if d.next()%6 == 0 {
		return none(int64(d.from(1, 4)))
	}
	switch typ {
	case api.TBool:
		return boolean(d.next()%2 == 0)
	case api.TText:
		return txt(pick(d, "", "a", "ab", "it's"))
	case api.TRat:
		if d.next()%2 == 0 {
			return rat(int64(d.from(-4, 4)*2+1), 2)
		}
	}
	if d.next()%8 == 0 {
		return num(pick(d, api.MaxNum, -api.MaxNum, api.MaxCoord, int64(api.Open), -api.MaxCoord))
	}
	return num(int64(d.from(-3, 5)))
}

// dims returns dimensions with some names, some of them open or at a limit.
func (d *dice) dims(names ...string) []api.Dim {
	var out []api.Dim
	for _, name := range names {
		lo := d.from(-3, 2)
		switch d.next() % 8 {
		case 0:
			out = append(out, dim(name, lo, api.Open))
		case 1:
			out = append(out, dim(name, api.MaxCoord-d.from(0, 3), pick(d, api.MaxCoord, api.Open)))
		default:
			out = append(out, dim(name, lo, lo+d.from(0, 4)))
		}
	}
	return out
}

// attrs returns attributes with some names, and types that look random.
func (d *dice) attrs(names ...string) []api.Attr {
	var out []api.Attr
	for _, name := range names {
		out = append(out, attr(name, pick(d, api.TInt, api.TInt, api.TBool, api.TRat, api.TText)))
	}
	return out
}

// array returns an array with at most n cells, near the lower bounds of its dimensions.
func (d *dice) array(dims []api.Dim, attrs []api.Attr, n int) api.Array {
	var cells []api.Cell
	for range n {
		c := api.Cell{}
		for _, x := range dims {
			c.At = append(c.At, d.from(x.Lo, min(x.Lo+4, x.Hi, api.MaxCoord)))
		}
		for _, x := range attrs {
			c.Vals = append(c.Vals, d.value(x.Type))
		}
		if !slices.ContainsFunc(cells, func(x api.Cell) bool { return slices.Equal(x.At, c.At) }) {
			cells = append(cells, c)
		}
	}
	return made(dims, attrs, cells)
}

// shuffled returns some of the elements of a list, at least one, in any order.
func shuffled(d *dice, l ...string) []string {
	l = slices.Clone(l)
	for k := range l {
		i := d.from(0, k)
		l[k], l[i] = l[i], l[k]
	}
	return l[:d.from(1, len(l))]
}

// some returns an array with some of the names of dimensions and attributes, no more than there can be.
func (d *dice) some(dims, attrs []string, n int) api.Array {
	dims, attrs = shuffled(d, dims...), shuffled(d, attrs...)
	return d.array(d.dims(dims[:min(len(dims), api.MaxDims)]...), d.attrs(attrs[:min(len(attrs), api.MaxAttrs)]...), n)
}

// made returns the valid array with some cells in any order.
func made(dims []api.Dim, attrs []api.Attr, cells []api.Cell) api.Array {
	a, e := space.Make(dims, attrs, cells)
	if e != api.OK {
		panic("an array that is not valid")
	}
	return a
}

// scalar returns a scalar of a type for an array, or one that is close to it, with at most the depth that is stated.
func (d *dice) scalar(a api.Array, typ, depth int) api.Scalar {
	if depth == 1 || d.next()%4 == 0 {
		return d.leaf(a, typ)
	}
	sub := func(typ int) api.Scalar { return d.scalar(a, typ, depth-1) }
	numeric := pick(d, api.TInt, api.TRat)
	either := pick(d, api.TBool, api.TInt, api.TRat, api.TText)
	switch d.next() % 4 {
	case 0:
		return op(api.SElse, sub(typ), sub(typ))
	case 1:
		return op(api.SIf, sub(api.TBool), sub(typ), sub(typ))
	}
	switch typ {
	case api.TBool:
		return pick(d, op(api.SNot, sub(api.TBool)), op(api.SMissing, sub(either)), op(d.from(api.SAnd, api.SOr), sub(api.TBool), sub(api.TBool)), op(d.from(api.SEq, api.SGe), sub(either), sub(either)))
	case api.TInt:
		return pick(d, op(api.SReason, sub(either)), op(api.SFloor, sub(numeric)), op(d.from(api.SAdd, api.SMul), sub(api.TInt), sub(api.TInt)), op(api.SNeg, sub(api.TInt)))
	case api.TRat:
		return pick(d, op(api.SDiv, sub(numeric), sub(numeric)), op(d.from(api.SAdd, api.SMul), sub(api.TRat), sub(numeric)), op(api.SNeg, sub(api.TRat)))
	}
	return d.leaf(a, typ)
}

// leaf returns a scalar without arguments.
func (d *dice) leaf(a api.Array, typ int) api.Scalar {
	var l []api.Scalar
	for _, x := range a.Attrs {
		if x.Type == typ {
			l = append(l, use(x.Name))
		}
	}
	if typ == api.TInt {
		l = append(l, along(pick(d, a.Dims...).Name))
	}
	for {
		if v := d.value(typ); v.Kind != api.KMissing {
			return pick(d, append(l, constant(v))...)
		}
	}
}

func num(n int64) api.Val       { return rat(n, 1) }
func rat(n, d int64) api.Val    { return api.Val{Kind: api.KNum, N: n, D: d} }
func none(reason int64) api.Val { return api.Val{Kind: api.KMissing, N: reason} }
func txt(s string) api.Val      { return api.Val{Kind: api.KText, S: s} }

func boolean(is bool) api.Val {
	if is {
		return api.Val{Kind: api.KBool, N: 1}
	}
	return api.Val{Kind: api.KBool}
}

func constant(v api.Val) api.Scalar           { return api.Scalar{Op: api.SConst, Val: v} }
func use(name string) api.Scalar              { return api.Scalar{Op: api.SAttr, Name: name} }
func along(name string) api.Scalar            { return api.Scalar{Op: api.SDim, Name: name} }
func op(n int, args ...api.Scalar) api.Scalar { return api.Scalar{Op: n, Args: args} }
func above(name string, n int64) api.Scalar   { return op(api.SGt, use(name), constant(num(n))) }

func dim(name string, lo, hi int) api.Dim     { return api.Dim{Name: name, Lo: lo, Hi: hi} }
func dims(l ...api.Dim) []api.Dim             { return l }
func attr(name string, typ int) api.Attr      { return api.Attr{Name: name, Type: typ} }
func cell(at []int, vals ...api.Val) api.Cell { return api.Cell{At: at, Vals: vals} }
func list(at ...int) []int                    { return at }
func names(l ...string) []string              { return l }

// farNumbers are numbers whose sums and differences do not fit.
var farNumbers = []int{math.MinInt, math.MinInt + 1, -1 << 40, 1 << 40, math.MaxInt - 1, math.MaxInt}

// table is the string of the array of the document's examples.
const table = "dim x 0:3\ndim y 0:1\nattr v int\n0 0: 5\n1 0: 7\n1 1: ?1\n3 1: 2\n"

// parse returns the array of a string.
func parse(s string) api.Array {
	a, e := space.Parse(s)
	if e != api.OK {
		panic("not the string of an array: " + s)
	}
	return a
}

// line returns an array with n cells along one dimension.
func line(name, attribute string, n int) api.Array {
	a := api.Array{Dims: dims(dim(name, 0, 9999)), Attrs: []api.Attr{attr(attribute, api.TInt)}}
	for k := range n {
		a.Cells = append(a.Cells, cell(list(k), num(int64(k))))
	}
	return a
}

// spoiled are arrays that are not valid.
func spoiled() []api.Array {
	var out []api.Array
	for _, change := range []func(a *api.Array){
		func(a *api.Array) { a.Dims = nil },
		func(a *api.Array) { a.Dims[0].Name = "X" },
		func(a *api.Array) { a.Dims[0].Hi = -1 },
		func(a *api.Array) { a.Attrs = nil },
		func(a *api.Array) { a.Attrs[0].Name = "x" },
		func(a *api.Array) { a.Attrs[0].Type = 5 },
		func(a *api.Array) { a.Cells[1].At = list(1) },
		func(a *api.Array) { a.Cells[1].Vals = nil },
		func(a *api.Array) { a.Cells[3].At = list(4, 1) },
		func(a *api.Array) { a.Cells[3].Vals[0] = rat(1, 2) },
		func(a *api.Array) { a.Cells[3].At = list(1, 1) },
		func(a *api.Array) { a.Cells[0], a.Cells[1] = a.Cells[1], a.Cells[0] },
	} {
		a := parse(table)
		change(&a)
		out = append(out, a)
	}
	return append(out, api.Array{}, line("x", "v", api.MaxCells+1))
}

func isZero(a api.Array) bool { return len(a.Dims)+len(a.Attrs)+len(a.Cells) == 0 }

func sameCells(a, b []api.Cell) bool {
	return slices.EqualFunc(a, b, func(a, b api.Cell) bool { return slices.Equal(a.At, b.At) && slices.Equal(a.Vals, b.Vals) })
}

func sameSchema(a, b api.Array) bool {
	return slices.Equal(a.Dims, b.Dims) && slices.Equal(a.Attrs, b.Attrs)
}

func sameArray(a, b api.Array) bool { return sameSchema(a, b) && sameCells(a.Cells, b.Cells) }

// expect compares a result with an array, or with an error.
func expect(t *testing.T, what any, a api.Array, e api.Errno, want api.Array, f api.Errno) {
	t.Helper()
	if e != f {
		t.Fatalf("%v: error %d, not %d", what, e, f)
	}
	if e != api.OK && !isZero(a) {
		t.Fatalf("%v: an array together with the error %d", what, e)
	}
	if e == api.OK && !sameArray(a, want) {
		s, _ := space.Print(a)
		w, _ := space.Print(want)
		t.Fatalf("%v:\n%s\nnot\n%s", what, s, w)
	}
	if e == api.OK && space.Check(a) != api.OK {
		t.Fatalf("%v: an array that is not valid", what)
	}
}

// expectString compares a result with the string of an array.
func expectString(t *testing.T, what any, a api.Array, e api.Errno, want string) {
	t.Helper()
	expect(t, what, a, e, parse(want), api.OK)
}

// expectError compares a result with an error.
func expectError(t *testing.T, what any, a api.Array, e, want api.Errno) {
	t.Helper()
	expect(t, what, a, e, api.Array{}, want)
}

// must returns the array of a call that has no error.
func must(a api.Array, e api.Errno) api.Array {
	if e != api.OK {
		panic("an error: " + string(rune('0'+e)))
	}
	return a
}

// schemaOf returns an array without its cells.
func schemaOf(a api.Array) api.Array { return api.Array{Dims: a.Dims, Attrs: a.Attrs} }

// roomy returns a copy of a list with elements behind its end, all of them filled.
func roomy[E any](l []E, fill E) []E {
	out := make([]E, len(l), len(l)+3)
	copy(out, l)
	for k := len(l); k < cap(out); k++ {
		out[:cap(out)][k] = fill
	}
	return out
}

// spoil overwrites all elements of a list, also those behind its end.
func spoil[E any](l []E, with E) {
	l = l[:cap(l)]
	for k := range l {
		l[k] = with
	}
}

// roomyArray returns a copy of an array whose slices all have filled elements behind their ends.
func roomyArray(a api.Array) api.Array {
	out := api.Array{Dims: roomy(a.Dims, dim("behind", 0, 0)), Attrs: roomy(a.Attrs, attr("behind", 1)), Cells: roomy(a.Cells, cell(list(-99)))}
	for k, c := range out.Cells {
		out.Cells[k] = cell(roomy(c.At, -99), roomy(c.Vals, txt("behind"))...)
	}
	return out
}

// sameRoom reports whether a is what roomyArray returned for b, also behind the ends.
func sameRoom(a, b api.Array) bool {
	b = roomyArray(b)
	same := slices.Equal(a.Dims[:cap(a.Dims)], b.Dims[:cap(b.Dims)]) && slices.Equal(a.Attrs[:cap(a.Attrs)], b.Attrs[:cap(b.Attrs)])
	same = same && sameCells(a.Cells[:cap(a.Cells)], b.Cells[:cap(b.Cells)])
	for k := range a.Cells {
		x, y := a.Cells[k], b.Cells[k]
		same = same && slices.Equal(x.At[:cap(x.At)], y.At[:cap(y.At)]) && slices.Equal(x.Vals[:cap(x.Vals)], y.Vals[:cap(y.Vals)])
	}
	return same
}

// apart overwrites all memory of an array, differently for each cell, and checks that its slices share none.
func apart(t *testing.T, what string, a api.Array) {
	t.Helper()
	for k, c := range a.Cells {
		spoil(c.At, k)
		spoil(c.Vals, num(int64(k)))
	}
	for k, c := range a.Cells {
		if slices.ContainsFunc(c.At, func(x int) bool { return x != k }) || slices.ContainsFunc(c.Vals, func(v api.Val) bool { return v != num(int64(k)) }) {
			t.Fatal(what, "cells of the result share memory")
		}
	}
	spoil(a.Dims, dim("spoiled", 0, 0))
	spoil(a.Attrs, attr("spoiled", 1))
	spoil(a.Cells, api.Cell{})
}

// The rest of this file computes what the chapter defines, by names.

// record is a cell: what it has along each dimension, and for each attribute, by their names.
type record struct {
	at   map[string]int
	vals map[string]api.Val
}

// records returns the cells of an array as records.
func records(a api.Array) []record {
	var out []record
	for _, c := range a.Cells {
		r := record{map[string]int{}, map[string]api.Val{}}
		for k, d := range a.Dims {
			r.at[d.Name] = c.At[k]
		}
		for k, x := range a.Attrs {
			r.vals[x.Name] = c.Vals[k]
		}
		out = append(out, r)
	}
	return out
}

// ofRecords returns the array with some records, of which the names that it does not have are left out.
func ofRecords(dims []api.Dim, attrs []api.Attr, l []record) api.Array {
	var cells []api.Cell
	for _, r := range l {
		c := api.Cell{}
		for _, d := range dims {
			c.At = append(c.At, r.at[d.Name])
		}
		for _, x := range attrs {
			c.Vals = append(c.Vals, r.vals[x.Name])
		}
		cells = append(cells, c)
	}
	return made(dims, attrs, cells)
}

// specType returns the type of a scalar that is well-formed.
func specType(a api.Array, s api.Scalar) (int, api.Errno) {
	switch s.Op {
	case api.SConst:
		for _, typ := range list(api.TBool, api.TText, api.TInt, api.TRat) {
			if exact.Fits(s.Val, typ) {
				return typ, api.OK
			}
		}
	case api.SAttr:
		for _, x := range a.Attrs {
			if x.Name == s.Name {
				return x.Type, api.OK
			}
		}
		return 0, api.ErrName
	case api.SDim:
		for _, x := range a.Dims {
			if x.Name == s.Name {
				return api.TInt, api.OK
			}
		}
		return 0, api.ErrName
	}
	var types []int
	for _, x := range s.Args {
		typ, e := specType(a, x)
		if e != api.OK {
			return 0, e
		}
		types = append(types, typ)
	}
	return exact.Type(s.Op, types)
}

// specValue returns the value of a scalar that has a type, for a record.
func specValue(s api.Scalar, r record) api.Val {
	switch s.Op {
	case api.SConst:
		return s.Val
	case api.SAttr:
		return r.vals[s.Name]
	case api.SDim:
		return num(int64(r.at[s.Name]))
	}
	var vals []api.Val
	for _, x := range s.Args {
		vals = append(vals, specValue(x, r))
	}
	v, e := exact.Do(s.Op, vals)
	if e != api.OK {
		panic("a scalar with a type has no value")
	}
	return v
}

// hasAttr and hasDim report whether an array has an attribute, or a dimension, with a name.
func hasAttr(a api.Array, name string) bool {
	return slices.ContainsFunc(a.Attrs, func(x api.Attr) bool { return x.Name == name })
}

func hasDim(a api.Array, name string) bool {
	return slices.ContainsFunc(a.Dims, func(x api.Dim) bool { return x.Name == name })
}

// a call is an operation with operands for which it has no error; b is not used if two is not set.
type call struct {
	what string
	a, b api.Array
	two  bool
	run  func(a, b api.Array) (api.Array, api.Errno)
}

// calls returns calls of all operations.
func calls() []call {
	t := parse(table)
	wide := parse("dim x 0:3\ndim y 0:1\nattr v int\nattr w text\nattr u rat\n0 0: 5, 'a', 1/2\n2 1: ?9, 'b', ?1\n3 0: 1, 'c', 3\n")
	side := parse("dim y 0:1\nattr w text\n0: 'a'\n1: 'b'\n")
	other := parse("dim z 4:5\nattr w bool\n4: true\n5: ?7\n")
	more := parse("dim x -2:4\ndim y 0:1\nattr v int\n0 0: 1\n2 0: 9\n3 1: 4\n")
	one := func(f func(a api.Array) (api.Array, api.Errno)) func(a, b api.Array) (api.Array, api.Errno) {
		return func(a, b api.Array) (api.Array, api.Errno) { return f(a) }
	}
	return []call{
		{"subarray", t, t, false, one(func(a api.Array) (api.Array, api.Errno) { return algebra.Subarray(a, list(1, 0), list(9, 9)) })},
		{"filter", t, t, false, one(func(a api.Array) (api.Array, api.Errno) { return algebra.Filter(a, above("v", 2)) })},
		{"apply", t, t, false, one(func(a api.Array) (api.Array, api.Errno) { return algebra.Apply(a, "n", op(api.SNeg, use("v"))) })},
		{"project", wide, t, false, one(func(a api.Array) (api.Array, api.Errno) { return algebra.Project(a, names("u", "v")) })},
		{"project on all", wide, t, false, one(func(a api.Array) (api.Array, api.Errno) { return algebra.Project(a, names("v", "w", "u")) })},
		{"rename", wide, t, false, one(func(a api.Array) (api.Array, api.Errno) { return algebra.Rename(a, "x", "n") })},
		{"rename an attribute", wide, t, false, one(func(a api.Array) (api.Array, api.Errno) { return algebra.Rename(a, "w", "n") })},
		{"reshape", wide, t, false, one(func(a api.Array) (api.Array, api.Errno) { return algebra.Reshape(a, dims(dim("z", 1, 8))) })},
		{"reshape to the same", wide, t, false, one(func(a api.Array) (api.Array, api.Errno) { return algebra.Reshape(a, a.Dims) })},
		{"transpose", wide, t, false, one(func(a api.Array) (api.Array, api.Errno) { return algebra.Transpose(a, names("y", "x")) })},
		{"concat", t, more, true, func(a, b api.Array) (api.Array, api.Errno) { return algebra.Concat(a, b, "x") }},
		{"join", t, side, true, algebra.Join},
		{"cross", t, other, true, algebra.Cross},
		{"merge", t, more, true, algebra.Merge},
		{"redim", t, t, false, one(func(a api.Array) (api.Array, api.Errno) {
			return algebra.Redim(a, dims(dim("v", 0, 9)), names("x", "y"), api.Fail)
		})},
		{"redim, last", t, t, false, one(func(a api.Array) (api.Array, api.Errno) {
			return algebra.Redim(a, dims(dim("y", 0, 1)), names("v"), api.Last)
		})},
	}
}
