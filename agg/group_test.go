package agg_test

import (
	"math"
	"slices"
	"testing"

	"tesseract/agg"
	"tesseract/api"
	"tesseract/space"
)

// P5.3

// specGroup is Group, as the chapter says it.
func specGroup(a api.Array, d []api.Dim, l []api.Agg) (api.Array, api.Errno) {
	if _, e := space.Whole(d); e != api.OK {
		return api.Array{}, e
	}
	for _, x := range d {
		switch typ := attrType(a, x.Name); {
		case hasDim(a.Dims, x.Name) || typ == api.TInt:
		case typ == 0:
			return api.Array{}, api.ErrName
		default:
			return api.Array{}, api.ErrType
		}
	}
	return specMoved(a, d, l, func(c api.Cell) []int {
		at := []int{}
		for _, x := range d {
			var v api.Val
			if k := slices.IndexFunc(a.Dims, func(y api.Dim) bool { return y.Name == x.Name }); k >= 0 {
				v = num(int64(c.At[k]))
			} else {
				v = valueOf(a, c, x.Name)
			}
			if v.Kind == api.KMissing || v.N < int64(x.Lo) || v.N > int64(x.Hi) || v.N > api.MaxCoord {
				return nil
			}
			at = append(at, int(v.N))
		}
		return at
	})
}

func TestGroup(t *testing.T) {
	a := parse(table)
	b, e := agg.Group(a, dims(dim("y", 0, 1)), aggs(of(api.Sum, "v", "s")))
	expectString(t, "example", b, e, "dim y 0:1\nattr s int\n0: 12\n1: 2\n")
	b, e = agg.Group(a, dims(dim("v", 3, 9)), aggs(countOf("n")))
	expectString(t, "by an attribute", b, e, "dim v 3:9\nattr n int\n5: 1\n7: 1\n")
	b, e = agg.Group(a, dims(dim("v", 2, 5)), aggs(countOf("n")))
	expectString(t, "both bounds", b, e, "dim v 2:5\nattr n int\n2: 1\n5: 1\n")
	b, e = agg.Group(a, dims(dim("v", 0, 9), dim("y", 1, 9)), aggs(of(api.Max, "v", "v1"), countOf("n")))
	expectString(t, "by both", b, e, "dim v 0:9\ndim y 1:9\nattr v1 int\nattr n int\n2 1: 2, 1\n")
	b, e = agg.Group(a, dims(dim("y", 0, 1)), aggs(of(api.Count, "v", "v"), countOf("x"), of(api.Avg, "v", "m"), of(api.Var, "v", "w"), of(api.Min, "v", "l"), of(api.Distinct, "v", "d")))
	expectString(t, "six", b, e, "dim y 0:1\nattr v int\nattr x int\nattr m rat\nattr w rat\nattr l int\nattr d int\n0: 2, 2, 6, 1, 5, 2\n1: 1, 2, 2, 0, 2, 1\n")
	b, e = agg.Group(a, dims(dim("y", 1, api.Open), dim("x", 0, 1)), aggs(of(api.Sum, "v", "s"), of(api.Count, "v", "n"), countOf("c")))
	expectString(t, "no values", b, e, "dim y 1:*\ndim x 0:1\nattr s int\nattr n int\nattr c int\n1 1: ?4, 0, 1\n")
	b, e = agg.Group(a, dims(dim("y", 2, 3)), aggs(countOf("n")))
	expectString(t, "all left out", b, e, "dim y 2:3\nattr n int\n")
	none := api.Array{Dims: a.Dims, Attrs: a.Attrs}
	b, e = agg.Group(none, dims(dim("x", -9, 9)), aggs(of(api.Var, "v", "w")))
	expectString(t, "no cells", b, e, "dim x -9:9\nattr w rat\n")
	far := parse("dim x 0:9\nattr v int\n0: 1099511627776\n1: -1\n2: 1073741824\n3: 1073741825\n4: -1073741824\n5: -1073741825\n6: -1099511627776\n")
	b, e = agg.Group(far, dims(dim("v", -api.MaxCoord, api.Open)), aggs(of(api.Sum, "x", "s")))
	expectError(t, "the sum of a dimension", b, e, api.ErrName)
	b, e = agg.Group(far, dims(dim("v", -api.MaxCoord, api.Open)), aggs(of(api.Sum, "v", "s")))
	expectString(t, "open", b, e, "dim v -1073741824:*\nattr s int\n-1073741824: -1073741824\n-1: -1\n1073741824: 1073741824\n")
	b, e = agg.Group(far, dims(dim("v", -api.MaxCoord, api.MaxCoord-1)), aggs(countOf("n")))
	expectString(t, "all but the last coordinate", b, e, "dim v -1073741824:1073741823\nattr n int\n-1073741824: 1\n-1: 1\n")
}

func TestGroupAgrees(t *testing.T) {
	d := dice(11)
	good := 0
	for range 4000 {
		a := d.array(25)
		l := shuffled(&d, names("x", "y", "z", "w", "u", "i", "v", "q"))[:d.from(0, 3)]
		if d.next()%2 == 0 {
			l = slices.DeleteFunc(l, func(s string) bool { return !hasDim(a.Dims, s) && attrType(a, s) != api.TInt })
		}
		to := d.dims(l...)
		for k, x := range to {
			if i := slices.IndexFunc(a.Dims, func(y api.Dim) bool { return y.Name == x.Name }); i >= 0 && d.next()%4 > 0 {
				to[k] = a.Dims[i]
			}
		}
		m := d.aggs(a)
		want, f := specGroup(a, to, m)
		b, e := agg.Group(a, to, m)
		expect(t, m, b, e, want, f)
		good += len(b.Cells)
	}
	if good < 2000 {
		t.Error("too few cells were grouped:", good)
	}
}

func TestGroupRefuses(t *testing.T) {
	a := parse("dim x 0:3\ndim y 0:1\nattr v int\nattr w rat\nattr t text\nattr b bool\n1 0: 1, 2, 'a', true\n")
	y := dim("y", 0, 1)
	one := aggs(of(api.Sum, "v", "s"))
	for k, x := range []struct {
		d    []api.Dim
		l    []api.Agg
		want api.Errno
	}{
		{nil, nil, api.ErrShape},
		{dims(), one, api.ErrShape},
		{dims(y, y, y, y, y), nil, api.ErrShape},
		{dims(dim("Y", 0, 1)), nil, api.ErrName},
		{dims(y, y), nil, api.ErrName},
		{dims(y, dim("x", 1, 0)), nil, api.ErrRange},
		{dims(y, dim("x", 0, api.Open+1)), nil, api.ErrRange},
		{dims(y, dim("x", -api.MaxCoord-1, 0)), nil, api.ErrRange},
		{dims(y, dim("x", farNumbers[0], farNumbers[5])), nil, api.ErrRange},
		{dims(dim("q", 0, 1), dim("x", 1, 0)), nil, api.ErrRange}, // the error of the dimensions comes first
		{dims(dim("w", 0, 1), dim("x", 1, 0)), nil, api.ErrRange},
		{dims(dim("q", 0, 1)), nil, api.ErrName},
		{dims(y, dim("q", 0, 1)), one, api.ErrName},
		{dims(dim("w", 0, 1)), one, api.ErrType},
		{dims(dim("t", 0, 1)), one, api.ErrType},
		{dims(dim("b", 0, 1)), one, api.ErrType},
		{dims(dim("w", 0, 1), dim("q", 0, 1)), nil, api.ErrType},
		{dims(dim("q", 0, 1), dim("w", 0, 1)), nil, api.ErrName},
		{dims(y), nil, api.ErrMany},
		{dims(y), aggs(of(api.Sum, "v", "y")), api.ErrName},
		{dims(y), aggs(of(api.Sum, "v", "x")), api.OK}, // x is no dimension of the result
		{dims(dim("v", 0, 1)), aggs(of(api.Sum, "v", "v")), api.ErrName},
		{dims(y), aggs(of(api.Sum, "v", "v")), api.OK},
		{dims(dim("v", 0, 9), y, dim("x", 0, 3)), one, api.OK},
	} {
		b, e := agg.Group(a, x.d, x.l)
		if x.want == api.OK && e == api.OK && len(b.Cells) == 1 {
			continue
		}
		expectError(t, k, b, e, x.want)
	}
}

// The error of aggregates, which five operations return (P5.3 to P5.6)

// operations returns the operations with aggregates, for arrays with the dimensions x and y: the aggregates are their last arguments that can have an error.
func operations() map[string]func(a api.Array, l []api.Agg) (api.Array, api.Errno) {
	return map[string]func(a api.Array, l []api.Agg) (api.Array, api.Errno){
		"group":    func(a api.Array, l []api.Agg) (api.Array, api.Errno) { return agg.Group(a, a.Dims, l) },
		"regrid":   func(a api.Array, l []api.Agg) (api.Array, api.Errno) { return agg.Regrid(a, list(2, 2), l) },
		"window":   func(a api.Array, l []api.Agg) (api.Array, api.Errno) { return agg.Window(a, list(1, 1), list(0, 2), l) },
		"vary":     func(a api.Array, l []api.Agg) (api.Array, api.Errno) { return agg.Vary(a, "x", 1, 2, l) },
		"cumulate": func(a api.Array, l []api.Agg) (api.Array, api.Errno) { return agg.Cumulate(a, "y", l) },
	}
}

func TestAggregatesError(t *testing.T) {
	a := parse("dim x 0:3\ndim y 0:1\nattr v int\nattr w rat\nattr t text\nattr b bool\n1 0: 1, 2, 'a', true\n")
	v := of(api.Sum, "v", "s")
	var seven []api.Agg
	for _, as := range names("a", "b", "c", "d", "e", "f", "g") {
		seven = append(seven, of(api.Sum, "v", as))
	}
	for k, x := range []struct {
		l    []api.Agg
		want api.Errno
	}{
		{nil, api.ErrMany},
		{aggs(), api.ErrMany},
		{seven, api.ErrMany},
		{seven[:6], api.OK},
		{slices.Repeat(aggs(api.Agg{}), 7), api.ErrMany},
		{aggs(api.Agg{}), api.ErrArg},
		{aggs(of(0, "v", "s")), api.ErrArg},
		{aggs(of(8, "v", "s")), api.ErrArg},
		{aggs(of(-1, "", "")), api.ErrArg},
		{aggs(of(math.MaxInt, "q", "")), api.ErrArg},
		{aggs(of(math.MinInt, "q", "")), api.ErrArg},
		{aggs(of(api.Sum, "q", "")), api.ErrName},
		{aggs(of(api.Sum, "x", "s")), api.ErrName},
		{aggs(of(api.Count, "y", "s")), api.ErrName},
		{aggs(of(api.Count, "q", "s")), api.ErrName},
		{aggs(of(api.Sum, "", "s")), api.ErrName},
		{aggs(of(api.Distinct, "", "s")), api.ErrName},
		{aggs(of(api.Min, "", "s")), api.ErrName},
		{aggs(of(api.Sum, "s", "s")), api.ErrName},
		{aggs(v, of(api.Sum, "s", "r")), api.ErrName},
		{aggs(of(api.Sum, "t", "")), api.ErrType},
		{aggs(of(api.Avg, "t", "s")), api.ErrType},
		{aggs(of(api.Var, "b", "s")), api.ErrType},
		{aggs(of(api.Sum, "b", "x")), api.ErrType},
		{aggs(of(api.Min, "t", "")), api.ErrName},
		{aggs(of(api.Min, "t", "T")), api.ErrName},
		{aggs(of(api.Min, "t", "1")), api.ErrName},
		{aggs(of(api.Min, "t", "abcdefghi_123")), api.ErrName},
		{aggs(of(api.Min, "t", "abcdefghi_12")), api.OK},
		{aggs(of(api.Min, "t", "x")), api.ErrName},
		{aggs(countOf("y")), api.ErrName},
		{aggs(countOf("")), api.ErrName},
		{aggs(v, v), api.ErrName},
		{aggs(v, countOf("n"), of(api.Avg, "w", "s")), api.ErrName},
		{aggs(countOf("v"), of(api.Max, "v", "w")), api.OK},
		{aggs(v, of(api.Sum, "t", "S"), of(0, "", "")), api.ErrType},
		{aggs(v, of(0, "", ""), of(api.Sum, "t", "S")), api.ErrArg},
		{aggs(countOf("S"), of(0, "", "")), api.ErrName},
	} {
		if _, e := specAttrs(a, a.Dims, x.l); e != x.want {
			t.Fatal(k, "the test itself is wrong", e)
		}
		for what, run := range operations() {
			b, e := run(a, x.l)
			if x.want != api.OK {
				expectError(t, what, b, e, x.want)
			} else if e != api.OK || len(b.Cells) != 1 || len(b.Attrs) != len(x.l) {
				t.Error(k, what, b, e)
			}
		}
	}
}

// P5.4

// specRegrid is Regrid, as the chapter says it.
func specRegrid(a api.Array, factors []int, l []api.Agg) (api.Array, api.Errno) {
	if len(factors) != len(a.Dims) {
		return api.Array{}, api.ErrShape
	}
	for _, f := range factors {
		if f < 1 || f > api.MaxCoord {
			return api.Array{}, api.ErrRange
		}
	}
	// The numbers are so small that a float tells on which side of an integer a quotient is.
	down := func(x, f int) int { return int(math.Floor(float64(x) / float64(f))) }
	var d []api.Dim
	for k, x := range a.Dims {
		hi := api.Open
		if x.Hi < api.Open {
			hi = down(x.Hi, factors[k])
		}
		d = append(d, dim(x.Name, down(x.Lo, factors[k]), hi))
	}
	return specMoved(a, d, l, func(c api.Cell) []int {
		at := []int{}
		for k, x := range c.At {
			at = append(at, down(x, factors[k]))
		}
		return at
	})
}

func TestRegrid(t *testing.T) {
	a := parse(table)
	b, e := agg.Regrid(a, list(2, 2), aggs(countOf("n"), of(api.Max, "v", "m")))
	expectString(t, "example", b, e, "dim x 0:1\ndim y 0:0\nattr n int\nattr m int\n0 0: 3, 7\n1 0: 1, 2\n")
	b, e = agg.Regrid(a, list(3, 1), aggs(of(api.Sum, "v", "v")))
	expectString(t, "blocks that are cut off", b, e, "dim x 0:1\ndim y 0:1\nattr v int\n0 0: 12\n0 1: ?4\n1 1: 2\n")
	b, e = agg.Regrid(a, list(1, 1), aggs(of(api.Max, "v", "v")))
	expectString(t, "by 1", b, e, "dim x 0:3\ndim y 0:1\nattr v int\n0 0: 5\n1 0: 7\n1 1: ?4\n3 1: 2\n")
	b, e = agg.Regrid(a, list(api.MaxCoord, api.MaxCoord), aggs(of(api.Avg, "v", "m")))
	expectString(t, "one block", b, e, "dim x 0:0\ndim y 0:0\nattr m rat\n0 0: 14/3\n")
	low := parse("dim x -7:*\nattr v int\n-7: 1\n-6: 2\n-5: 3\n-4: 4\n-3: 5\n-1: 6\n0: 7\n2: 8\n3: 9\n1073741824: 10\n")
	b, e = agg.Regrid(low, list(3), aggs(of(api.Sum, "v", "s")))
	expectString(t, "below 0", b, e, "dim x -3:*\nattr s int\n-3: 1\n-2: 9\n-1: 11\n0: 15\n1: 9\n357913941: 10\n")
	b, e = agg.Regrid(low, list(1), aggs(countOf("n")))
	if e != api.OK || b.Dims[0] != low.Dims[0] || len(b.Cells) != len(low.Cells) || b.Cells[9].At[0] != api.MaxCoord {
		t.Error("by 1, open", b, e)
	}
	far := parse("dim x -1073741824:1073741824\nattr v int\n-1073741824: 1\n-1: 3\n0: 4\n1073741823: 8\n1073741824: 5\n")
	b, e = agg.Regrid(far, list(api.MaxCoord), aggs(of(api.Sum, "v", "s")))
	expectString(t, "the greatest factor", b, e, "dim x -1:1\nattr s int\n-1: 4\n0: 12\n1: 5\n")
	b, e = agg.Regrid(far, list(2), aggs(of(api.Sum, "v", "s")))
	expectString(t, "the lowest coordinates", b, e, "dim x -536870912:536870912\nattr s int\n-536870912: 1\n-1: 3\n0: 4\n536870911: 8\n536870912: 5\n")
}

func TestRegridAgrees(t *testing.T) {
	d := dice(12)
	for range 3000 {
		a := d.array(25)
		var factors []int
		for range a.Dims {
			factors = append(factors, pick(&d, 1, 2, 2, 3, 4, d.from(1, 9), api.MaxCoord, api.MaxCoord-1))
		}
		if d.next()%10 == 0 {
			factors[0] = pick(&d, 0, -1, api.Open, farNumbers[0], farNumbers[5])
		}
		l := d.aggs(a)
		want, f := specRegrid(a, factors, l)
		b, e := agg.Regrid(a, factors, l)
		expect(t, factors, b, e, want, f)
	}
}

func TestRegridRefuses(t *testing.T) {
	a := parse(table)
	one := aggs(countOf("n"))
	for k, x := range []struct {
		factors []int
		l       []api.Agg
		want    api.Errno
	}{
		{nil, nil, api.ErrShape},
		{list(0), nil, api.ErrShape},
		{list(1), one, api.ErrShape},
		{list(1, 1, 1), one, api.ErrShape},
		{list(0, 1), nil, api.ErrRange},
		{list(1, 0), one, api.ErrRange},
		{list(-2, 1), one, api.ErrRange},
		{list(1, api.MaxCoord+1), one, api.ErrRange},
		{list(farNumbers[0], 1), one, api.ErrRange},
		{list(1, farNumbers[5]), one, api.ErrRange},
		{list(1, 1), nil, api.ErrMany},
		{list(1, 1), aggs(countOf("x")), api.ErrName},
	} {
		b, e := agg.Regrid(a, x.factors, x.l)
		expectError(t, k, b, e, x.want)
	}
}

// P5.9

func TestRegrids(t *testing.T) {
	d := dice(13)
	cells := 0
	for range 1500 {
		a := d.array(40)
		both, first, second := []int{}, []int{}, []int{}
		for range a.Dims {
			f, g := d.from(1, 4), pick(&d, d.from(1, 4), 1<<28)
			first, second, both = append(first, f), append(second, g), append(both, f*g)
		}
		name := pick(&d, a.Attrs...).Name
		twice := func(fn, then int, name string) (api.Array, api.Array) {
			b := must(agg.Regrid(must(agg.Regrid(a, first, aggs(of(fn, name, "m")))), second, aggs(of(then, "m", "m"))))
			return b, must(agg.Regrid(a, both, aggs(of(fn, name, "m"))))
		}
		for _, fn := range list(api.Min, api.Max) {
			b, want := twice(fn, fn, name)
			expect(t, fn, b, api.OK, want, api.OK)
		}
		for _, x := range names(name, "") {
			b, want := twice(api.Count, api.Sum, x)
			expect(t, "count", b, api.OK, want, api.OK)
			cells += len(b.Cells)
		}
		if typ := attrType(a, name); typ != api.TInt && typ != api.TRat {
			continue
		}
		sums := must(agg.Regrid(a, first, aggs(of(api.Sum, name, "m"))))
		if !slices.ContainsFunc(sums.Cells, func(c api.Cell) bool { return c.Vals[0].Kind == api.KMissing }) {
			b, want := twice(api.Sum, api.Sum, name)
			expect(t, "sum", b, api.OK, want, api.OK)
		}
	}
	if cells < 3000 {
		t.Error("too few cells were tested:", cells)
	}
}

// The largest arrays (P5.3 to P5.7)

func TestFullArray(t *testing.T) {
	a := line(api.MaxCells)
	b, e := agg.Group(a, dims(dim("v", 0, api.Open)), aggs(of(api.Sum, "v", "s"), countOf("n")))
	if e != api.OK || len(b.Cells) != api.MaxCells || b.Cells[4095].Vals[0] != num(4095) || b.Cells[4095].Vals[1] != num(1) {
		t.Error("group", len(b.Cells), e)
	}
	b, e = agg.Regrid(a, list(api.MaxCells), aggs(of(api.Sum, "v", "s"), of(api.Var, "v", "w"), of(api.Distinct, "v", "d")))
	expectString(t, "regrid", b, e, "dim x 0:2\nattr s int\nattr w rat\nattr d int\n0: 8386560, 5592405/4, 4096\n")
	b, e = agg.Cumulate(a, "x", aggs(of(api.Sum, "v", "s"), of(api.Min, "v", "l"), of(api.Max, "v", "h")))
	if e != api.OK || len(b.Cells) != api.MaxCells || !slices.Equal(b.Cells[4095].Vals, []api.Val{num(8386560), num(0), num(4095)}) {
		t.Error("cumulate", len(b.Cells), e)
	}
	b, e = agg.Rank(a, "v", nil, "r")
	if e != api.OK || len(b.Cells) != api.MaxCells || b.Cells[4095].Vals[1] != num(4096) {
		t.Error("rank", len(b.Cells), e)
	}
	full := parse("dim x 0:63\ndim y 0:63\nattr v int\n")
	whole := parse("dim x 0:63\ndim y 0:63\nattr n int\nattr s int\n")
	for k := range api.MaxCells {
		full.Cells = append(full.Cells, cell(list(k/64, k%64), num(int64(k))))
		whole.Cells = append(whole.Cells, cell(list(k/64, k%64), num(4096), num(8386560)))
	}
	b, e = agg.Window(full, list(64, 64), list(64, 64), aggs(countOf("n"), of(api.Sum, "v", "s")))
	expect(t, "window", b, e, whole, api.OK)
}
