package query_test

import (
	"slices"
	"testing"

	"tesseract/agg"
	"tesseract/algebra"
	"tesseract/api"
	"tesseract/query"
	"tesseract/space"
)

// P6.3

// denotes are expressions, and the arrays that they denote for base.
func denotes() [][2]string {
	const v = "dim x 0:3\ndim y 0:1\nattr v int\n"
	return [][2]string{
		{"t", table},
		{"sub(t; 0:1, 1:*)", "dim x 0:1\ndim y 1:1\nattr v int\n1 1: ?1\n"},
		{"sub(t; 1:3, 0:0)", "dim x 1:3\ndim y 0:0\nattr v int\n1 0: 7\n"},
		{"filter(t; (.v > 2))", v + "0 0: 5\n1 0: 7\n"},
		{"filter(t; (@y = 1))", v + "1 1: ?1\n3 1: 2\n"},
		{"apply(t; w = (.v / 2))", "dim x 0:3\ndim y 0:1\nattr v int\nattr w rat\n0 0: 5, 5/2\n1 0: 7, 7/2\n1 1: ?1, ?1\n3 1: 2, 1\n"},
		{"project(u; q, w)", "dim y -1:4\nattr q rat\nattr w text\n0: 1/2, 'a'\n1: ?7, 'it''s'\n4: 3, ''\n"},
		{"rename(u; w, y2)", "dim y -1:4\nattr y2 text\nattr q rat\n0: 'a', 1/2\n1: 'it''s', ?7\n4: '', 3\n"},
		{"rename(z; p, b2)", "dim b2 5:*\nattr b bool\n5: true\n9: false\n77: ?2\n"},
		{"reshape(t; a -1:0, b 1:4)", "dim a -1:0\ndim b 1:4\nattr v int\n-1 1: 5\n-1 3: 7\n-1 4: ?1\n0 4: 2\n"},
		{"transpose(t; y, x)", "dim y 0:1\ndim x 0:3\nattr v int\n0 0: 5\n0 1: 7\n1 1: ?1\n1 3: 2\n"},
		{"concat(t, t2; x)", "dim x 0:7\ndim y 0:1\nattr v int\n0 0: 5\n1 0: 7\n1 1: ?1\n3 1: 2\n4 1: 4\n6 0: 6\n7 1: 8\n"},
		{"concat(t2, t; x)", "dim x -2:5\ndim y 0:1\nattr v int\n-2 1: 4\n0 0: 6\n1 1: 8\n2 0: 5\n3 0: 7\n3 1: ?1\n5 1: 2\n"},
		{"join(t, u)", "dim x 0:3\ndim y 0:1\nattr v int\nattr w text\nattr q rat\n0 0: 5, 'a', 1/2\n1 0: 7, 'a', 1/2\n1 1: ?1, 'it''s', ?7\n3 1: 2, 'it''s', ?7\n"},
		{"join(u, t)", "dim y 0:1\ndim x 0:3\nattr w text\nattr q rat\nattr v int\n0 0: 'a', 1/2, 5\n0 1: 'a', 1/2, 7\n1 1: 'it''s', ?7, ?1\n1 3: 'it''s', ?7, 2\n"},
		{"cross(sub(z; 77:77), sub(t; 3:3, 1:1))", "dim p 77:77\ndim x 3:3\ndim y 1:1\nattr b bool\nattr v int\n77 3 1: ?2, 2\n"},
		{"merge(t, t2)", "dim x -2:3\ndim y 0:1\nattr v int\n-2 1: 4\n0 0: 5\n1 0: 7\n1 1: ?1\n3 1: 2\n"},
		{"merge(t2, t)", "dim x -2:3\ndim y 0:1\nattr v int\n-2 1: 4\n0 0: 6\n1 0: 7\n1 1: 8\n3 1: 2\n"},
		{"redim(t; v 0:9; x; fail)", "dim v 0:9\nattr x int\n2: 3\n5: 0\n7: 1\n"},
		{"redim(t; y 0:1; v, x; first)", "dim y 0:1\nattr v int\nattr x int\n0: 5, 0\n1: ?1, 1\n"},
		{"redim(t; y 0:1; v, x; last)", "dim y 0:1\nattr v int\nattr x int\n0: 7, 1\n1: 2, 3\n"},
		{"group(t; y 0:1; sum(v) as s)", "dim y 0:1\nattr s int\n0: 12\n1: 2\n"},
		{"group(t; v 5:9, y 0:*; count() as n, max(v) as m)", "dim v 5:9\ndim y 0:*\nattr n int\nattr m int\n5 0: 1, 5\n7 0: 1, 7\n"},
		{"regrid(t; 3, 1; count() as n)", "dim x 0:1\ndim y 0:1\nattr n int\n0 0: 2\n0 1: 1\n1 1: 1\n"},
		{"window(t; 1:0, 0:1; sum(v) as s)", "dim x 0:3\ndim y 0:1\nattr s int\n0 0: 5\n1 0: 12\n1 1: ?4\n3 1: 2\n"},
		{"window(t; 0:1, 1:0; sum(v) as s)", "dim x 0:3\ndim y 0:1\nattr s int\n0 0: 12\n1 0: 7\n1 1: 7\n3 1: 2\n"},
		{"vary(t; x 1:0; sum(v) as s)", "dim x 0:3\ndim y 0:1\nattr s int\n0 0: 5\n1 0: 12\n1 1: ?4\n3 1: 2\n"},
		{"vary(t; x 0:1; sum(v) as s)", "dim x 0:3\ndim y 0:1\nattr s int\n0 0: 12\n1 0: 7\n1 1: 2\n3 1: 2\n"},
		{"cumulate(t; y; count() as n)", "dim x 0:3\ndim y 0:1\nattr n int\n0 0: 1\n1 0: 1\n1 1: 2\n3 1: 1\n"},
		{"rank(t; v; r)", "dim x 0:3\ndim y 0:1\nattr v int\nattr r int\n0 0: 5, 2\n1 0: 7, 3\n1 1: ?1, ?1\n3 1: 2, 1\n"},
		{"rank(t; v, y, x; r)", "dim x 0:3\ndim y 0:1\nattr v int\nattr r int\n0 0: 5, 1\n1 0: 7, 1\n1 1: ?1, ?1\n3 1: 2, 1\n"},
		{"sub(window(filter(t; (.v > 1)); 3:0, 1:0; sum(v) as s); 2:9, 0:9)", "dim x 2:3\ndim y 0:1\nattr s int\n3 1: 14\n"},
	}
}

func TestEval(t *testing.T) {
	db := base()
	for _, x := range denotes() {
		a, f := query.Eval(db, read(x[0]))
		expect(t, x[0], a, f, parse(x[1]), api.OK)
	}
}

func TestEvalRefuses(t *testing.T) {
	db := base()
	for _, x := range []struct {
		s    string
		want api.Errno
	}{
		{"none", api.ErrNone},
		{"sub(none; 0:1)", api.ErrNone},
		{"sub(t; 4:9, 0:1)", api.ErrRange},
		{"sub(t; 0:9)", api.ErrShape},
		{"filter(t; .v)", api.ErrType},
		{"filter(t; (.w = 1))", api.ErrName},
		{"apply(t; v = 1)", api.ErrName},
		{"project(t; v, v)", api.ErrName},
		{"rename(t; v, x)", api.ErrName},
		{"reshape(t; a 0:6)", api.ErrShape},
		{"reshape(z; a 0:6)", api.ErrRange},
		{"transpose(t; x)", api.ErrShape},
		{"concat(t, t2; v)", api.ErrName},
		{"concat(t, u; x)", api.ErrShape},
		{"join(t, z)", api.ErrShape},
		{"join(t, t)", api.ErrName},
		{"cross(t, u)", api.ErrName},
		{"merge(t, u)", api.ErrShape},
		{"redim(t; y 0:1; v; fail)", api.ErrConflict},
		{"redim(t; a 0:1; v; fail)", api.ErrName},
		{"group(u; w 0:1; sum(v) as s)", api.ErrType},
		{"regrid(t; 2; count() as n)", api.ErrShape},
		{"regrid(t; 0, 2; count() as n)", api.ErrRange},
		{"window(t; 65:0, 0:0; count() as n)", api.ErrRange},
		{"vary(t; v 0:0; count() as n)", api.ErrName},
		{"cumulate(u; y; sum(w) as n)", api.ErrType},
		{"rank(t; w; n)", api.ErrName},
		// the first operand comes first, and operands come before the operation
		{"merge(none, sub(t; 4:9, 0:1))", api.ErrNone},
		{"merge(sub(t; 4:9, 0:1), none)", api.ErrRange},
		{"sub(project(none; v); 4:9, 0:1)", api.ErrNone},
		{"sub(project(t; v2); 4:9, 0:1)", api.ErrName},
		{"join(join(t, t), none)", api.ErrName},
		{"join(t, join(none, join(t, t)))", api.ErrNone},
	} {
		a, f := query.Eval(db, read(x.s))
		expect(t, x.s, a, f, api.Array{}, x.want)
	}
	long := with(base(), "l", line(api.MaxCells))
	long = with(long, "m", must(algebra.Rename(must(algebra.Rename(parse(table), "x", "a")), "v", "w")))
	a, f := query.Eval(long, read("cross(l, m)"))
	expect(t, "too many cells", a, f, api.Array{}, api.ErrMany)
	a, f = query.Schema(long, read("cross(l, m)"))
	if f != api.OK || len(a.Dims) != 3 || len(a.Attrs) != 2 || len(a.Cells) != 0 {
		t.Error(a, f)
	}
	for _, x := range []struct {
		e    api.Expr
		want api.Errno
	}{
		{api.Expr{}, api.ErrArg}, {scan(""), api.ErrArg}, {only(scan("none")), api.ErrArg}, {full(13, 13), api.ErrDeep}, {full(7, 65), api.ErrMany}, {full(14, 70), api.ErrDeep},
		{merged(scan("none"), api.Expr{}), api.ErrArg}, {full(12, 12), api.OK}, {full(7, 64), api.OK},
	} {
		a, f := query.Eval(db, x.e)
		b, g := query.Schema(db, x.e)
		if f != x.want || g != x.want || isZero(a) != (f != api.OK) || isZero(b) != (g != api.OK) {
			t.Error(x.want, f, g)
		}
	}
}

// must returns the array of a call that has no error.
func must(a api.Array, e api.Errno) api.Array {
	if e != api.OK {
		panic("an error")
	}
	return a
}

// R8

func TestEvalDatabase(t *testing.T) {
	for k, db := range spoiled() {
		for _, e := range []api.Expr{scan("t"), scan("u"), scan("none"), {}, full(13, 13), full(7, 65)} {
			a, f := query.Eval(db, e)
			expect(t, k, a, f, api.Array{}, api.ErrArg)
			a, f = query.Schema(db, e)
			expect(t, k, a, f, api.Array{}, api.ErrArg)
		}
	}
	a, f := query.Eval(nil, scan("t"))
	expect(t, "no arrays", a, f, api.Array{}, api.ErrNone)
	var db api.DB
	for k := range api.MaxArrays {
		db = with(db, string(rune('a'+k)), line(k))
	}
	for k := range api.MaxArrays {
		a, f := query.Eval(db, scan(string(rune('a'+k))))
		expect(t, k, a, f, line(k), api.OK)
	}
}

// specEval is Eval for a valid database and a well-formed expression, as the chapter says it.
func specEval(db api.DB, e api.Expr) (api.Array, api.Errno) {
	var l [2]api.Array
	for k, x := range e.Args {
		a, f := specEval(db, x)
		if f != api.OK {
			return api.Array{}, f
		}
		l[k] = a
	}
	a, b := l[0], l[1]
	switch e.Op {
	case api.EScan:
		if a, is := space.Find(db, e.Name); is {
			return a, api.OK
		}
		return a, api.ErrNone
	case api.ESub:
		return algebra.Subarray(a, e.Lo, e.Hi)
	case api.EFilter:
		return algebra.Filter(a, e.By)
	case api.EApply:
		return algebra.Apply(a, e.Name, e.By)
	case api.EProject:
		return algebra.Project(a, e.Names)
	case api.ERename:
		return algebra.Rename(a, e.Names[0], e.Names[1])
	case api.EReshape:
		return algebra.Reshape(a, e.Dims)
	case api.ETranspose:
		return algebra.Transpose(a, e.Names)
	case api.EConcat:
		return algebra.Concat(a, b, e.Name)
	case api.EJoin:
		return algebra.Join(a, b)
	case api.ECross:
		return algebra.Cross(a, b)
	case api.EMerge:
		return algebra.Merge(a, b)
	case api.ERedim:
		return algebra.Redim(a, e.Dims, e.Names, e.Rule)
	case api.EGroup:
		return agg.Group(a, e.Dims, e.Aggs)
	case api.ERegrid:
		return agg.Regrid(a, e.Lo, e.Aggs)
	case api.EWindow:
		return agg.Window(a, e.Lo, e.Hi, e.Aggs)
	case api.EVary:
		return agg.Vary(a, e.Name, e.Lo[0], e.Hi[0], e.Aggs)
	case api.ECumulate:
		return agg.Cumulate(a, e.Name, e.Aggs)
	}
	return agg.Rank(a, e.Names[0], e.Names[1:], e.Name)
}

// exprs yields expressions with a database each, most of which denote an array.
func exprs(seed dice, n int, yield func(db api.DB, e api.Expr)) {
	d := seed
	for k := range n {
		db := d.db()
		e := d.denoting(db, d.from(1, 6))
		if k%4 == 0 { // with an error somewhere
			l := changes(&e)
			l[d.from(0, len(l)-1)]()
		}
		if query.Check(e) == api.OK {
			yield(db, e)
		}
	}
}

func TestEvalAgrees(t *testing.T) {
	met := map[api.Errno]int{}
	kinds := map[int]int{}
	exprs(11, 4000, func(db api.DB, e api.Expr) {
		want, f := specEval(db, e)
		before := deep(e)
		a, g := query.Eval(db, e)
		expect(t, e, a, g, want, f)
		if !sameExpr(e, before) {
			t.Fatal("an argument was changed")
		}
		met[f]++
		if f == api.OK && len(a.Cells) > 0 {
			kinds[e.Op]++
		}
	})
	if met[api.OK] < 2000 || len(met) < 5 {
		t.Error("too few results of one kind were tested:", met)
	}
	for n := api.EScan; n <= api.ERank; n++ {
		if kinds[n] < 10 {
			t.Error("too few results of the operation", n, kinds[n])
		}
	}
}

// P6.4

func TestSchema(t *testing.T) {
	conflicts := 0
	exprs(12, 3000, func(db api.DB, e api.Expr) {
		var bare api.DB
		for _, x := range db {
			bare = with(bare, x.Name, api.Array{Dims: x.Array.Dims, Attrs: x.Array.Attrs})
		}
		want, f := specEval(bare, e)
		a, g := query.Schema(db, e)
		expect(t, e, a, g, want, f)
		b, h := query.Eval(db, e)
		if h == api.ErrConflict { // without cells there may be no error, or one further on
			conflicts++
			return
		}
		if h != g || !sameSchema(a, b) || len(a.Cells) != 0 {
			t.Fatal(e, g, h)
		}
	})
	if conflicts == 0 {
		t.Error("no conflict was tested")
	}
	a, f := query.Schema(base(), read("redim(t; y 0:1; v; fail)"))
	expect(t, "cells in conflict", a, f, parse("dim y 0:1\nattr v int\n"), api.OK)
}

// R5

func TestEvalMemory(t *testing.T) {
	for _, x := range denotes() {
		db, e := base(), read(x[0])
		a := must(query.Eval(db, e))
		s := must(query.Schema(db, e))
		spoilArray(a)
		spoilArray(s)
		if !sameExpr(e, read(x[0])) || !slices.EqualFunc(db, base(), func(a, b api.Named) bool { return a.Name == b.Name && sameArray(a.Array, b.Array) }) {
			t.Error(x[0], "the result shares memory with an argument")
		}
	}
}

// P6.11

// places returns all nodes of an expression.
func places(e *api.Expr) []*api.Expr {
	out := []*api.Expr{e}
	for k := range e.Args {
		out = append(out, places(&e.Args[k])...)
	}
	return out
}

func TestReplacing(t *testing.T) {
	d := dice(13)
	replaced := 0
	exprs(14, 2500, func(db api.DB, e api.Expr) {
		want, f := query.Eval(db, e)
		l := places(&e)
		at := l[d.from(0, len(l)-1)]
		a, g := query.Eval(db, *at)
		if g != api.OK {
			return
		}
		if at != l[0] {
			replaced++
		}
		*at = scan("new")
		b, h := query.Eval(with(db, "new", a), e)
		expect(t, e, b, h, want, f)
	})
	if replaced < 500 {
		t.Error("too few operands were replaced:", replaced)
	}
}

// P6.12

func TestReading(t *testing.T) {
	d := dice(15)
	exprs(16, 2000, func(db api.DB, e api.Expr) {
		want, f := query.Eval(db, e)
		scans := query.Scans(e)
		fewer := slices.DeleteFunc(slices.Clone(db), func(x api.Named) bool { return !slices.Contains(scans, x.Name) })
		a, g := query.Eval(shuffled(&d, fewer), e)
		expect(t, e, a, g, want, f)
		for k, x := range db {
			if !slices.Contains(scans, x.Name) {
				db[k].Array = line(3)
			}
		}
		a, g = query.Eval(db, e)
		expect(t, e, a, g, want, f)
		if f == api.OK && len(scans) > 0 {
			less := slices.DeleteFunc(slices.Clone(db), func(x api.Named) bool { return x.Name == pick(&d, scans...) })
			if _, g := query.Eval(less, e); len(less) < len(db) && g != api.ErrNone {
				t.Fatal("an array that is not there", g)
			}
		}
	})
}
