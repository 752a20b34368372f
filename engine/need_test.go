package engine_test

import (
	"maps"
	"math"
	"slices"
	"strings"
	"testing"

	"tesseract/api"
	"tesseract/engine"
	"tesseract/query"
	"tesseract/space"
)

// boxText returns the string of a box.
func boxText(b api.Box) string {
	s := text(api.Expr{Op: api.ESub, Lo: b.Lo, Hi: b.Hi, Args: []api.Expr{scan("q")}})
	return strings.TrimSuffix(strings.TrimPrefix(s, "sub(q; "), ")")
}

// needText returns the string of needs.
func needText(l []engine.Need) string {
	var out []string
	for _, n := range l {
		out = append(out, n.Name+" "+boxText(n.Box))
	}
	return strings.Join(out, "; ")
}

// P7.1

func TestNeeds(t *testing.T) {
	const far = math.MaxInt
	for _, x := range []struct {
		e    string
		b    api.Box
		want string
	}{
		// the examples of the chapter
		{"window(t; 1:1, 0:0; sum(v) as s)", box(2, 2, 0, 0), "t 1:3, 0:0"},
		{"reshape(t; z 0:7)", box(2, 3), "t 1:1, 0:1"},
		{"regrid(t; 2, 2; sum(v) as s)", box(1, 9, 0, 0), "t 2:3, 0:1"},
		{"regrid(t; 2, 2; sum(v) as s)", box(2, 9, 0, 0), ""},
		{"merge(sub(t; 0:0, 0:1), sub(t; 3:3, 0:1))", box(0, 3, 0, 0), "t 0:3, 0:0"},
		// a scan
		{"t", box(-9, 9, -9, 9), "t 0:3, 0:1"},
		{"t", box(1, 2, 1, 1), "t 1:2, 1:1"},
		{"t", box(3, 2, 0, 1), ""},
		{"t", box(4, api.Open, 0, 1), ""},
		{"t", box(math.MinInt, math.MaxInt, 0, 0), "t 0:3, 0:0"},
		{"o", box(-9, api.Open), "o -4:*"},
		{"o", box(2, far), "o 2:*"},
		{"o", box(2, api.MaxCoord), "o 2:1073741824"},
		{"o", box(api.MaxCoord+5, api.Open), "o 1073741829:*"}, // space.Inter finds a common part
		{"o", box(api.MaxCoord+5, api.MaxCoord+9), "o 1073741829:*"},
		// B at D
		{"sub(t; 1:2, 0:1)", box(0, 1, 1, 9), "t 1:1, 1:1"},
		{"sub(o; 1:*)", box(0, 9), "o 1:9"},
		{"sub(t; 1:2, 0:1)", box(3, 3, 0, 1), ""},
		{"filter(t; (.v > 2))", box(1, 1, 0, 1), "t 1:1, 0:1"},
		{"apply(t; w = @x)", box(1, 2, 0, 0), "t 1:2, 0:0"},
		{"project(u; q)", box(-3, 0), "u -1:0"},
		{"rename(t; y, a)", box(1, 2, 0, 0), "t 1:2, 0:0"},
		{"rename(t; v, a)", box(1, 2, 0, 0), "t 1:2, 0:0"},
		{"rename(rename(rename(t; x, a); y, x); a, y)", box(3, 3, 0, 0), "t 3:3, 0:0"}, // the names are exchanged
		{"transpose(t; y, x)", box(1, 1, 2, 9), "t 2:3, 1:1"},
		{"transpose(cross(t, o); p, y, x)", box(5, 6, 1, 1, 2, 3), "o 5:6; t 2:3, 1:1"},
		{"merge(t, t2)", box(-2, -1, 0, 0), "t2 -2:-1, 0:0"},
		{"merge(t, t2)", box(-2, 2, 0, 0), "t 0:2, 0:0; t2 -2:1, 0:0"},
		{"merge(t2, t2)", box(2, 9, 0, 0), ""},
		// reshapes: 0 0, 0 1, 1 0 and so on have the numbers 0 to 7
		{"reshape(t; z 0:7)", box(5, 5), "t 2:2, 1:1"},
		{"reshape(t; z 0:7)", box(3, 4), "t 1:2, 0:1"},
		{"reshape(t; z 10:17)", box(0, 10), "t 0:0, 0:0"},
		{"reshape(t; a 0:1, b 0:3)", box(0, 0, 1, 2), "t 0:1, 0:1"},
		{"reshape(t; a 0:1, b 0:3)", box(1, 1, 2, 3), "t 3:3, 0:1"},
		{"reshape(t; a 0:1, b 0:3)", box(0, 1, 3, 3), "t 1:3, 0:1"},
		{"reshape(g; z 0:8)", box(3, 5), "g 1:1, -1:1"},
		{"reshape(reshape(g; z 0:8); c 0:2, d 0:0, e 0:2)", box(2, 2, 0, 0, 0, 1), "g 2:2, -1:0"},
		{"reshape(reshape(g; c 0:2, d 0:0, e 0:2); z 0:8)", box(7, 8), "g 2:2, 0:1"},
		// concats
		{"concat(t, t2; x)", box(3, 5, 0, 0), "t 3:3, 0:0; t2 -2:-1, 0:0"},
		{"concat(t2, t; x)", box(2, 3, 1, 1), "t 0:1, 1:1"},
		{"concat(t2, t; x)", box(-9, 1, 1, 1), "t2 -2:1, 1:1"},
		{"concat(t, t; x)", box(3, 5, 0, 0), "t 0:3, 0:0"},
		{"concat(t, t; y)", box(1, 1, 1, 2), "t 1:1, 0:1"},
		{"concat(t, t; y)", box(1, 1, 2, 2), "t 1:1, 0:0"},
		// joins
		{"join(t, u)", box(1, 2, 1, 1), "t 1:2, 1:1; u 1:1"},
		{"join(u, t)", box(0, 0, 1, 2), "t 1:2, 0:0; u 0:0"},
		{"join(t, g)", box(1, 2, 1, 1, 0, 9), "g 1:1, 0:1; t 1:2, 1:1"},
		{"join(t, join(g, u))", box(1, 2, 2, 2, 0, 9), ""},
		{"cross(t, o)", box(1, 1, 0, 0, 3, far), "o 3:*; t 1:1, 0:0"},
		// redimensions and groups
		{"redim(t; v 0:9, y 0:1; x; last)", box(3, 4, 1, 1), "t 0:3, 1:1"},
		{"redim(t; v 0:9, y 0:1; x; first)", box(3, 4, 1, 1), "t 0:3, 1:1"},
		{"redim(t; v 0:9, y 0:1; x; fail)", box(3, 4, 1, 1), "t 0:3, 0:1"},
		{"redim(t; y -5:9; v; last)", box(-5, -1), ""},
		{"redim(t; y -5:9; v; fail)", box(-5, -1), "t 0:3, 0:1"},
		{"redim(o; n 0:9; p; first)", box(3, 4), "o -4:*"},
		{"group(t; x -5:9; sum(v) as s)", box(2, 9), "t 2:3, 0:1"},
		{"group(t; v 0:9; sum(v) as s)", box(2, 9), "t 0:3, 0:1"},
		{"group(w2; y 2:*; count() as c)", box(0, api.Open), "w2 0:5, 2:*"},
		{"group(t; x 5:9; count() as c)", box(5, 9), ""},
		// regrids
		{"regrid(t2; 2, 1; count() as c)", box(-1, -1, 0, 1), "t2 -2:-1, 0:1"},
		{"regrid(o; 3; count() as c)", box(-2, -1), "o -4:-1"},
		{"regrid(o; 3; count() as c)", box(1, api.Open), "o 3:*"},
		{"regrid(o; 1073741824; count() as c)", box(0, 0), "o 0:1073741823"},
		{"regrid(o; 1073741824; count() as c)", box(1, 1), "o 1073741824:*"}, // the upper bound is above MaxCoord
		{"regrid(o; 2; count() as c)", box(far, far), "o 9223372036854775806:*"},
		// windows
		{"window(t; 0:2, 1:0; sum(v) as s)", box(1, 1, 1, 1), "t 1:3, 0:1"},
		{"window(o; 1:64; sum(n) as s)", box(7, api.Open), "o 6:*"},
		{"window(o; 64:1; sum(n) as s)", box(7, 8), "o -4:9"},
		{"window(o; 1:1; sum(n) as s)", box(7, api.MaxCoord), "o 6:*"},
		// lines
		{"vary(t; x 0:0; sum(v) as s)", box(2, 2, 1, 1), "t 0:3, 1:1"},
		{"vary(t; y 1:1; sum(v) as s)", box(2, 2, 1, 1), "t 2:2, 0:1"},
		{"vary(o; p 1:1; sum(n) as s)", box(2, 2), "o -4:*"},
		{"cumulate(t; x; sum(v) as s)", box(1, 2, 0, 0), "t 0:2, 0:0"},
		{"cumulate(t; y; sum(v) as s)", box(1, 2, 1, 1), "t 1:2, 0:1"},
		{"cumulate(o; p; sum(n) as s)", box(1, api.Open), "o -4:*"},
		// ranks
		{"rank(t; v; r)", box(2, 2, 1, 1), "t 0:3, 0:1"},
		{"rank(t; v, y; r)", box(2, 2, 1, 1), "t 0:3, 1:1"},
		{"rank(t; v, x; r)", box(2, 2, 1, 1), "t 2:2, 0:1"},
		{"rank(t; v, y, x; r)", box(2, 2, 1, 1), "t 2:2, 1:1"},
		// several nodes
		{"window(regrid(t; 2, 1; sum(v) as s); 0:0, 1:0; sum(s) as s)", box(1, 1, 1, 1), "t 2:3, 0:1"},
		{"merge(window(t; 0:0, 1:0; sum(v) as v), cumulate(t2; x; sum(v) as v))", box(1, 1, 1, 1), "t 1:1, 0:1; t2 -2:1, 1:1"},
		{"concat(sub(t; 0:1, 0:1), sub(t; 2:3, 0:1); x)", box(2, 2, 0, 1), "t 2:2, 0:1"},
		{"window(merge(sub(t; 0:0, 0:1), sub(t2; 1:1, 0:1)); 0:1, 0:0; sum(v) as v)", box(-3, 0, 1, 1), "t 0:0, 1:1; t2 1:1, 1:1"},
	} {
		l, f := engine.Needs(base(), read(x.e), x.b)
		if s := needText(l); f != api.OK || s != x.want {
			t.Errorf("%s at %s: %d %s, not %s", x.e, boxText(x.b), f, s, x.want)
		}
	}
}

func TestNeedsRefuses(t *testing.T) {
	for _, x := range []struct {
		e    api.Expr
		b    api.Box
		want api.Errno
	}{
		{scan("none"), box(0, 1), api.ErrNone},
		{read("project(t; w)"), box(0, 1), api.ErrName},
		{read("sub(t; 4:9, 0:1)"), box(0, 1, 0, 1), api.ErrRange},
		{api.Expr{}, box(0, 1, 0, 1), api.ErrArg},
		{scan("t"), box(0, 1), api.ErrShape},
		{scan("t"), box(0, 1, 0, 1, 0, 1), api.ErrShape},
		{scan("t"), api.Box{}, api.ErrShape},
		{scan("t"), api.Box{Lo: list(0, 0), Hi: list(1)}, api.ErrShape},
		{scan("t"), api.Box{Lo: list(0), Hi: list(1, 1)}, api.ErrShape},
		{scan("o"), box(0, 1, 0, 1), api.ErrShape},
		{scan("none"), api.Box{}, api.ErrNone},
	} {
		if l, f := engine.Needs(base(), x.e, x.b); f != x.want || len(l) != 0 {
			t.Error(x.e, x.b, l, f)
		}
	}
	for k, db := range spoiled() {
		if l, f := engine.Needs(db, scan("t"), box(0, 1, 0, 1)); f != api.ErrArg || len(l) != 0 {
			t.Error(k, l, f)
		}
	}
}

// inside returns the coordinates of a box that is not large, one after the other.
func inside(b api.Box) [][]int {
	l, e := space.Seq(api.Layout{Order: api.RowMajor}, b)
	if e != api.OK {
		panic("a box that is too large")
	}
	return l
}

// depends reports whether a cell of the result of a node can depend on the coordinates from of an operand.
func depends(e api.Expr, result, operand api.Array, second bool, at, from []int) bool {
	where := map[string]int{} // the coordinates of the result by their names
	for k, d := range result.Dims {
		where[d.Name] = at[k]
	}
	for k, d := range operand.Dims {
		x, y := from[k], where[d.Name]
		_, there := where[d.Name]
		there = there || e.Op == api.ERename
		is := x == y || !there
		switch e.Op {
		case api.ERename:
			is = x == at[k]
		case api.EReshape:
			return true // this is examined elsewhere
		case api.EConcat:
			if second && d.Name == e.Name {
				is = x == y-(result.Dims[k].Hi-operand.Dims[k].Hi)
			}
		case api.ERedim:
			is = is || e.Rule == api.Fail
		case api.ERegrid:
			is = x >= y*e.Lo[k] && x < (y+1)*e.Lo[k]
		case api.EWindow:
			is = x >= y-e.Lo[k] && x <= y+e.Hi[k]
		case api.EVary:
			is = is || d.Name == e.Name
		case api.ECumulate:
			is = is || d.Name == e.Name && x <= y
		case api.ERank:
			is = is || !slices.Contains(e.Names[1:], d.Name)
		}
		if !is {
			return false
		}
	}
	return true
}

// hull is a box that grows with coordinates.
type hull struct{ b api.Box }

func (h *hull) add(at []int) {
	if h.b.Lo == nil {
		h.b = api.Box{Lo: slices.Clone(at), Hi: slices.Clone(at)}
	}
	for k, x := range at {
		h.b.Lo[k], h.b.Hi[k] = min(h.b.Lo[k], x), max(h.b.Hi[k], x)
	}
}

// specNeed returns the least box with all coordinates of an operand on which the coordinates of a box of the result can depend.
func specNeed(e api.Expr, result, operand api.Array, second bool, b api.Box) hull {
	var h hull
	whole, _ := space.Whole(operand.Dims)
	first, last := math.MaxInt, -1
	for _, at := range inside(b) {
		if e.Op == api.EReshape {
			number, _ := space.Index(result.Dims, at)
			first, last = min(first, number), max(last, number)
			continue
		}
		for _, from := range inside(whole) {
			if depends(e, result, operand, second, at, from) {
				h.add(from)
			}
		}
	}
	for number := first; number <= last; number++ {
		from, _ := space.At(operand.Dims, number)
		h.add(from)
	}
	return h
}

// specNeeds adds to the hulls of the scans what a box of an expression needs. The dimensions are not open, and not large.
func specNeeds(db api.DB, e api.Expr, b api.Box, into map[string]*hull) {
	a := schema(db, e)
	whole, _ := space.Whole(a.Dims)
	b, is := space.Inter(b, whole)
	if !is {
		return
	}
	if e.Op == api.EScan {
		if into[e.Name] == nil {
			into[e.Name] = &hull{}
		}
		into[e.Name].add(b.Lo)
		into[e.Name].add(b.Hi)
		return
	}
	for k, x := range e.Args {
		if h := specNeed(e, a, schema(db, x), k == 1, b); h.b.Lo != nil {
			specNeeds(db, x, h.b, into)
		}
	}
}

// isSmall reports whether no node of an expression has an open dimension, or many coordinates.
func isSmall(db api.DB, e api.Expr) bool {
	volume, f := space.Volume(schema(db, e).Dims)
	if f != api.OK || volume > 400 {
		return false
	}
	return !slices.ContainsFunc(e.Args, func(x api.Expr) bool { return !isSmall(db, x) })
}

// The needs are those that follow, coordinate by coordinate, from what each operation depends on.
func TestNeedsBySets(t *testing.T) {
	d := dice(71)
	db := closed(base())
	met := map[int]int{}
	for range 3000 {
		e := d.denoting(db, d.from(1, 5))
		if !isSmall(db, e) {
			continue
		}
		b := d.box(schema(db, e).Dims)
		l, f := engine.Needs(db, e, b)
		hulls := map[string]*hull{}
		specNeeds(db, e, b, hulls)
		var want []engine.Need
		for _, name := range slices.Sorted(maps.Keys(hulls)) {
			want = append(want, engine.Need{Name: name, Box: hulls[name].b})
		}
		if f != api.OK || needText(l) != needText(want) {
			t.Fatalf("%s at %s: %d %s, not %s", text(e), boxText(b), f, needText(l), needText(want))
		}
		if len(l) > 0 {
			met[e.Op]++
		}
	}
	for n := api.EScan; n <= api.ERank; n++ {
		if met[n] < 20 {
			t.Errorf("the operation %d was met only %d times", n, met[n])
		}
	}
}

// P7.10

// elsewhere returns a database with the same cells in the needs, and any cells elsewhere.
func (d *dice) elsewhere(db api.DB, needs []engine.Need) api.DB {
	var out api.DB
	for _, x := range db {
		inNeed := func(c api.Cell) bool {
			return slices.ContainsFunc(needs, func(n engine.Need) bool { return n.Name == x.Name && space.Has(n.Box, c.At) })
		}
		kept := slices.DeleteFunc(slices.Clone(x.Array.Cells), func(c api.Cell) bool { return !inNeed(c) })
		other := slices.DeleteFunc(d.cells(x.Array, 14).Cells, inNeed)
		out = with(out, x.Name, must(space.Make(x.Array.Dims, x.Array.Attrs, slices.Concat(kept, other))))
	}
	return out
}

func TestNeedsSuffice(t *testing.T) {
	d := dice(72)
	met := map[int]int{}
	for range 4000 {
		db := d.filled(base())
		e := d.denoting(db, d.from(1, 5))
		b := d.box(schema(db, e).Dims)
		l, f := engine.Needs(db, e, b)
		if f != api.OK {
			t.Fatal(text(e), f)
		}
		other := d.elsewhere(db, l)
		a, f := query.Eval(db, e)
		c, g := query.Eval(other, e)
		if f != api.OK || g != api.OK {
			continue
		}
		expect(t, text(e)+" at "+boxText(b), must(space.Cut(c, b)), api.OK, must(space.Cut(a, b)), api.OK)
		if !sameArray(a, c) && len(must(space.Cut(a, b)).Cells) > 0 {
			met[e.Op]++
		}
	}
	for n := api.EScan; n <= api.ERank; n++ {
		if met[n] < 3 {
			t.Errorf("the operation %d was met only %d times", n, met[n])
		}
	}
}
