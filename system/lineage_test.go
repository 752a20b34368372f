package system_test

import (
	"slices"
	"testing"

	"tesseract/api"
	"tesseract/engine"
	"tesseract/query"
	"tesseract/space"
	"tesseract/system"
)

// lineage checks the sources of a cell.
func lineage(t *testing.T, db api.DB, e string, at []int, want ...string) {
	t.Helper()
	l, f := system.Lineage(db, read(e), at)
	if f != api.OK || !slices.Equal(labels(l), want) {
		t.Errorf("%s at %v: %v, not %v: %d", e, at, labels(l), want, f)
	}
}

// impact checks of which cells a cell is a source.
func impact(t *testing.T, db api.DB, e, name string, at []int, want ...[]int) {
	t.Helper()
	l, f := system.Impact(db, read(e), name, at)
	if f != api.OK || !slices.EqualFunc(l, want, slices.Equal) {
		t.Errorf("%s of %s %v: %v, not %v: %d", e, name, at, l, want, f)
	}
}

// P12.1

func TestLineage(t *testing.T) {
	db := base()
	lineage(t, db, "t", list(1, 1), "t[1 1]")
	lineage(t, db, "sub(t; 1:*, 0:1)", list(3, 1), "t[3 1]")
	lineage(t, db, "filter(t; missing(.v))", list(1, 1), "t[1 1]")
	lineage(t, db, "apply(t; n = 1)", list(1, 0), "t[1 0]")
	lineage(t, db, "project(u; q)", list(4), "u[4]")
	lineage(t, db, "rename(t; x, y2)", list(0, 0), "t[0 0]")
	lineage(t, db, "reshape(t; a -1:0, b 5:8)", list(0, 8), "t[3 1]")
	lineage(t, db, "reshape(t; a -1:0, b 5:8)", list(-1, 7), "t[1 0]")
	lineage(t, db, "transpose(t; y, x)", list(0, 1), "t[1 0]")
	lineage(t, db, "concat(t, t2; x)", list(3, 1), "t[3 1]")
	lineage(t, db, "concat(t, t2; x)", list(4, 1), "t2[-2 1]")
	lineage(t, db, "concat(t2, t; x)", list(2, 0), "t[0 0]")
	lineage(t, db, "join(u, t)", list(1, 3), "t[3 1]", "u[1]")
	lineage(t, db, "cross(o, rename(rename(o; p, r); n, s))", list(5, -4), "o[-4]", "o[5]")
	lineage(t, db, "merge(t2, t)", list(0, 0), "t2[0 0]")
	lineage(t, db, "merge(t, t2)", list(0, 0), "t[0 0]")
	lineage(t, db, "merge(t, t2)", list(-2, 1), "t2[-2 1]")
	lineage(t, db, "merge(sub(t; 2:3, 0:1), t)", list(1, 1), "t[1 1]")
	lineage(t, db, "redim(t; v 0:9; x; fail)", list(7), "t[1 0]")
	lineage(t, db, "redim(t; y 0:1; x, v; first)", list(1), "t[1 1]")
	lineage(t, db, "redim(t; y 0:1; x, v; last)", list(1), "t[3 1]")
	lineage(t, db, "group(t; y 0:1; count() as n)", list(1), "t[1 1]", "t[3 1]")
	lineage(t, db, "group(t; v 5:9, y 0:0; count() as n)", list(7, 0), "t[1 0]")
	lineage(t, db, "group(t2; y 1:9; count() as n)", list(1), "t2[-2 1]", "t2[1 1]")
	lineage(t, db, "regrid(o; 3; sum(n) as s)", list(-2), "o[-4]")
	lineage(t, db, "regrid(o; 9; sum(n) as s)", list(0), "o[0]", "o[5]")
	lineage(t, db, "window(o; 4:5; sum(n) as s)", list(0), "o[-4]", "o[0]", "o[5]")
	lineage(t, db, "window(o; 3:5; sum(n) as s)", list(0), "o[0]", "o[5]")
	lineage(t, db, "vary(o; p 1:0; sum(n) as s)", list(5), "o[0]", "o[5]")
	lineage(t, db, "vary(o; p 0:2; sum(n) as s)", list(-4), "o[-4]", "o[0]", "o[5]")
	lineage(t, db, "vary(t; y 0:1; sum(v) as s)", list(1, 0), "t[1 0]", "t[1 1]")
	lineage(t, db, "cumulate(o; p; count() as n)", list(5), "o[-4]", "o[0]", "o[5]")
	lineage(t, db, "cumulate(t; x; count() as n)", list(3, 1), "t[1 1]", "t[3 1]")
	lineage(t, db, "rank(t; v, x; r)", list(1, 1), "t[1 0]", "t[1 1]")
	lineage(t, db, "rank(t; v, x, y; r)", list(1, 1), "t[1 1]")
	lineage(t, db, "rank(t; v; r)", list(0, 0), "t[0 0]", "t[1 0]", "t[1 1]", "t[3 1]")
	lineage(t, db, "group(join(t, project(u; q)); y 0:1; sum(q) as s)", list(1), "t[1 1]", "t[3 1]", "u[1]")
}

// The names of sources are sorted byte by byte, in front of their coordinates, which are not sorted as strings.
func TestOrderOfSources(t *testing.T) {
	db := api.DB{}
	for _, name := range names("b", "a_", "a1", "ab", "a") {
		db = with(db, name, parse("dim x -20:20\nattr v int\n-13: 1\n-2: 1\n0: 2\n9: 3\n10: 4\n"))
	}
	e := "group(concat(concat(concat(concat(b, ab; x), a1; x), a_; x), a; x); v 1:1; count() as n)"
	lineage(t, db, e, list(1), "a[-13]", "a[-2]", "a1[-13]", "a1[-2]", "a_[-13]", "a_[-2]", "ab[-13]", "ab[-2]", "b[-13]", "b[-2]")
	lineage(t, db, "cumulate(a; x; count() as n)", list(10), "a[-13]", "a[-2]", "a[0]", "a[9]", "a[10]")
	lineage(t, db, "cumulate(concat(a, a; x); x; count() as n)", list(50), "a[-13]", "a[-2]", "a[0]", "a[9]", "a[10]") // each of them once
}

func TestErrorsOfLineage(t *testing.T) {
	deep := scan("t")
	for range api.MaxDepth {
		deep = api.Expr{Op: api.EProject, Names: names("v"), Args: []api.Expr{deep}}
	}
	invalid := base()
	invalid[0].Array.Cells[0].Vals[0] = txt("a")
	for k, x := range []struct {
		db   api.DB
		e    api.Expr
		at   []int
		want api.Errno
	}{
		{invalid, deep, nil, api.ErrArg},
		{base(), deep, nil, api.ErrDeep},
		{base(), api.Expr{}, nil, api.ErrArg},
		{base(), scan("none"), nil, api.ErrNone},
		{base(), read("filter(t; .v)"), nil, api.ErrType},
		{base(), read("redim(t; y 0:1; v; fail)"), nil, api.ErrConflict},
		{with(base(), "l", lined(100)), read("cross(l, rename(rename(l; x, z); v, w))"), nil, api.ErrMany},
		{base(), scan("t"), nil, api.ErrShape},
		{base(), scan("t"), list(9), api.ErrShape},
		{base(), scan("t"), list(9, 9, 9), api.ErrShape},
		{base(), scan("t"), list(9, 9), api.ErrNone},
		{base(), scan("t"), list(0, 1), api.ErrNone},
		{base(), read("group(t; y 0:3; count() as n)"), list(2), api.ErrNone},
		{base(), read("filter(t; (.v > 6))"), list(0, 0), api.ErrNone},
	} {
		if l, f := system.Lineage(x.db, x.e, x.at); f != x.want || len(l) != 0 {
			t.Errorf("%d: %v and the error %d, not %d", k, l, f, x.want)
		}
		if x.want == api.ErrShape || len(x.at) > 0 {
			continue
		}
		if l, f := system.Impact(x.db, x.e, "other", x.at); f != x.want || len(l) != 0 {
			t.Errorf("%d: %v and the error %d, not %d", k, l, f, x.want)
		}
	}
}

// P12.2

func TestImpact(t *testing.T) {
	db := base()
	impact(t, db, "t", "t", list(1, 1), list(1, 1))
	impact(t, db, "t2", "t", list(1, 1))
	impact(t, db, "filter(t; (.v > 6))", "t", list(0, 0))
	impact(t, db, "concat(t, t; x)", "t", list(1, 0), list(1, 0), list(5, 0))
	impact(t, db, "join(t, u)", "u", list(1), list(1, 1), list(3, 1))
	impact(t, db, "join(t, u)", "u", list(4))
	impact(t, db, "merge(t, t2)", "t2", list(1, 1))
	impact(t, db, "merge(t, t2)", "t2", list(0, 0))
	impact(t, db, "merge(t, t2)", "t2", list(-2, 1), list(-2, 1))
	impact(t, db, "redim(t; y 0:1; v; last)", "t", list(0, 0))
	impact(t, db, "redim(t; y 0:1; v; last)", "t", list(1, 0), list(0))
	impact(t, db, "group(t; v 0:9; count() as n)", "t", list(1, 1))
	impact(t, db, "group(t; v 0:9; count() as n)", "t", list(0, 0), list(5))
	impact(t, db, "window(o; 4:0; sum(n) as s)", "o", list(-4), list(-4), list(0))
	impact(t, db, "cumulate(o; p; sum(n) as s)", "o", list(0), list(0), list(5), list(api.MaxCoord))
	impact(t, db, "rank(t; v, x; r)", "t", list(1, 1), list(1, 0), list(1, 1))
	impact(t, db, "transpose(vary(t; x 1:0; sum(v) as s); y, x)", "t", list(1, 1), list(1, 1), list(1, 3))
}

func TestErrorsOfImpact(t *testing.T) {
	for _, x := range []struct {
		e, name string
		at      []int
		want    api.Errno
	}{
		{"filter(t; .v)", "none", list(9), api.ErrType},
		{"t", "none", list(0, 0), api.ErrNone},
		{"t", "", nil, api.ErrNone},
		{"t", "t", list(0, 1), api.ErrNone},
		{"t", "t", list(4, 0), api.ErrNone},
		{"t", "t", list(0), api.ErrNone},
		{"t", "t", list(0, 0, 0), api.ErrNone},
		{"t", "t", nil, api.ErrNone},
		{"t", "u", list(2), api.ErrNone},
		{"t", "u", list(0, 0), api.ErrNone},
	} {
		if l, f := system.Impact(base(), read(x.e), x.name, x.at); f != x.want || len(l) != 0 {
			t.Errorf("%v: %v and the error %d", x, l, f)
		}
	}
}

// P12.1, P12.2: lineages by the words of the chapter, from the scans upwards.

// traced is the array that a node denotes, with the labels of the sources of each of its cells.
type traced struct {
	array api.Array
	from  []map[string]bool
}

// add adds the sources of the cell j of an operand to those of the cell k.
func (x traced) add(k int, operand traced, j int) {
	for s := range operand.from[j] {
		x.from[k][s] = true
	}
}

// index returns the index of the cell at some coordinates, or -1.
func index(a api.Array, at []int) int {
	return slices.IndexFunc(a.Cells, func(c api.Cell) bool { return slices.Equal(c.At, at) })
}

// evaluated returns the array that a node denotes for some operands.
func evaluated(e api.Expr, l ...api.Array) api.Array {
	var db api.DB
	e.Args = nil
	for k, a := range l {
		db = with(db, letters[k:k+1], a)
		e.Args = append(e.Args, scan(letters[k:k+1]))
	}
	return must(query.Eval(db, e))
}

// only returns an array with one of its cells, or without cells if there is none with this index.
func only(a api.Array, k int) api.Array {
	out := api.Array{Dims: a.Dims, Attrs: a.Attrs}
	if k >= 0 {
		out.Cells = a.Cells[k : k+1]
	}
	return out
}

// specTrace returns the array that an expression denotes, and the sources of its cells.
func specTrace(db api.DB, e api.Expr) traced {
	if e.Op == api.EScan {
		a, _ := space.Find(db, e.Name)
		out := traced{array: a}
		for _, c := range a.Cells {
			out.from = append(out.from, map[string]bool{label(e.Name, c.At): true})
		}
		return out
	}
	var l []traced
	var arrays []api.Array
	for _, x := range e.Args {
		l = append(l, specTrace(db, x))
		arrays = append(arrays, l[len(l)-1].array)
	}
	out := traced{array: evaluated(e, arrays...)}
	for range out.array.Cells {
		out.from = append(out.from, map[string]bool{})
	}
	switch e.Op {
	case api.EJoin, api.ECross:
		specPairs(out, e, l[0], l[1])
	case api.EMerge:
		for k, c := range out.array.Cells {
			if j := index(l[0].array, c.At); j >= 0 {
				out.add(k, l[0], j)
			} else {
				out.add(k, l[1], index(l[1].array, c.At))
			}
		}
	case api.EWindow, api.EVary, api.ECumulate, api.ERank:
		for k := range l[0].array.Cells { // which has cells at the same coordinates
			for j := range l[0].array.Cells {
				if specSees(e, l[0].array, k, j) {
					out.add(k, l[0], j)
				}
			}
		}
	default:
		specMoves(out, e, l, arrays)
	}
	return out
}

// specPairs adds the sources of each pair of cells to those of the cell that is made from them alone.
func specPairs(out traced, e api.Expr, a, b traced) {
	for i := range a.array.Cells {
		for j := range b.array.Cells {
			for _, c := range evaluated(e, only(a.array, i), only(b.array, j)).Cells {
				out.add(index(out.array, c.At), a, i)
				out.add(index(out.array, c.At), b, j)
			}
		}
	}
}

// specMoves adds the sources of each cell to those of the cell that is made from it alone; a redimension keeps one of them.
func specMoves(out traced, e api.Expr, l []traced, arrays []api.Array) {
	for i, x := range l {
		alone := slices.Clone(arrays)
		for k := range alone {
			alone[k] = only(arrays[k], -1)
		}
		for j := range x.array.Cells {
			alone[i] = only(x.array, j)
			for _, c := range evaluated(e, alone...).Cells {
				k := index(out.array, c.At)
				if e.Op == api.ERedim && e.Rule == api.First && len(out.from[k]) > 0 {
					continue
				}
				if e.Op == api.ERedim && e.Rule == api.Last {
					clear(out.from[k])
				}
				out.add(k, x, j)
			}
		}
	}
}

// specSees reports whether the cell j contributes to the cell at the coordinates of the cell k.
func specSees(e api.Expr, a api.Array, k, j int) bool {
	p, q := a.Cells[k].At, a.Cells[j].At
	between, along := 0, 0
	for i, d := range a.Dims {
		switch {
		case e.Op == api.EWindow:
			if q[i] < p[i]-e.Lo[i] || q[i] > p[i]+e.Hi[i] {
				return false
			}
		case e.Op == api.ERank:
			if slices.Contains(e.Names[1:], d.Name) && p[i] != q[i] {
				return false
			}
		case d.Name == e.Name:
			along = i
		case p[i] != q[i]:
			return false
		}
	}
	switch e.Op {
	case api.ECumulate:
		return q[along] <= p[along]
	case api.EVary: // how many steps there are from one to the other
		for i := range a.Cells {
			x := slices.Clone(a.Cells[i].At)
			y := x[along]
			x[along] = p[along]
			if slices.Equal(x, p) && min(p[along], q[along]) < y && y <= max(p[along], q[along]) {
				between++
			}
		}
		return q[along] <= p[along] && between <= e.Lo[0] || q[along] >= p[along] && between <= e.Hi[0]
	}
	return true
}

// TestLineageBySpec compares the lineage of all cells of random expressions, and the impact of all cells of the database.
func TestLineageBySpec(t *testing.T) {
	d := dice(121)
	met := map[int]int{}
	for range 1300 {
		db := base()
		for k := range db {
			if d.next()%2 == 0 {
				db[k].Array = d.cells(db[k].Array, d.from(0, 14))
			}
		}
		e := d.denoting(db, d.from(1, 5))
		want, f := query.Eval(db, e)
		if f != api.OK {
			continue
		}
		if len(want.Cells) > 0 {
			met[e.Op]++
		}
		comparesTrace(t, db, e, specTrace(db, e))
	}
	for n := api.EScan; n <= api.ERank; n++ {
		if met[n] < 15 {
			t.Errorf("the operation %d was met only %d times", n, met[n])
		}
	}
}

// comparesTrace checks the lineage of all cells of an expression, and the impact of all cells of the database.
func comparesTrace(t *testing.T, db api.DB, e api.Expr, want traced) {
	t.Helper()
	for k, c := range want.array.Cells {
		l, f := system.Lineage(db, e, c.At)
		if f != api.OK || len(l) != len(want.from[k]) || len(l) == 0 {
			t.Fatalf("%s at %v: %v, not %v: %d", text(e), c.At, l, want.from[k], f)
		}
		for i, s := range l {
			if !want.from[k][label(s.Name, s.At)] {
				t.Fatalf("%s at %v: %v, not %v", text(e), c.At, l, want.from[k])
			}
			if i > 0 && (l[i-1].Name > s.Name || l[i-1].Name == s.Name && space.Compare(l[i-1].At, s.At) >= 0) {
				t.Fatalf("%s at %v: %v is not sorted", text(e), c.At, l)
			}
		}
	}
	for _, x := range db {
		for _, c := range x.Array.Cells {
			var reached [][]int
			for k, from := range want.from {
				if from[label(x.Name, c.At)] {
					reached = append(reached, want.array.Cells[k].At)
				}
			}
			l, f := system.Impact(db, e, x.Name, c.At)
			if f != api.OK || !slices.EqualFunc(l, reached, slices.Equal) {
				t.Fatalf("%s of %s %v: %v, not %v: %d", text(e), x.Name, c.At, l, reached, f)
			}
		}
	}
}

// P12.5: sources are cells of the database, in the needs of the cell; impact and lineage agree.
func TestSourcesInNeeds(t *testing.T) {
	d := dice(122)
	sources, agreed := 0, 0
	for range 1200 {
		db := base()
		e := d.denoting(db, d.from(2, 6))
		a, f := query.Eval(db, e)
		if f != api.OK || len(a.Cells) == 0 {
			continue
		}
		for range 3 {
			c := pick(&d, a.Cells...)
			needs, f := engine.Needs(db, e, api.Box{Lo: c.At, Hi: c.At})
			l, g := system.Lineage(db, e, c.At)
			if f != api.OK || g != api.OK {
				t.Fatal(text(e), f, g)
			}
			for _, s := range l {
				x, _ := space.Find(db, s.Name)
				k := slices.IndexFunc(needs, func(n engine.Need) bool { return n.Name == s.Name })
				if index(x, s.At) < 0 || k < 0 || !space.Has(needs[k].Box, s.At) {
					t.Fatalf("%s: the source %v of %v is not in the needs %v", text(e), s, c.At, needs)
				}
				sources++
			}
			x := pick(&d, db...)
			s := pick(&d, x.Array.Cells...)
			reached, f := system.Impact(db, e, x.Name, s.At)
			is := slices.ContainsFunc(reached, func(at []int) bool { return slices.Equal(at, c.At) })
			if f != api.OK || is != slices.Contains(labels(l), label(x.Name, s.At)) {
				t.Fatalf("%s: %v has the source %v or not: %d", text(e), c.At, s.At, f)
			}
			if is {
				agreed++
			}
		}
	}
	if sources < 3000 || agreed < 150 {
		t.Error(sources, agreed)
	}
}

// P12.6: the sources alone lead to the same cell.
func TestSourcesAlone(t *testing.T) {
	d := dice(123)
	met := map[int]int{}
	for range 4000 {
		db := base()
		e := d.denoting(db, d.from(1, 5))
		a, f := query.Eval(db, e)
		if f != api.OK || len(a.Cells) == 0 || slices.ContainsFunc(e.Args, aggregates) {
			continue
		}
		c := pick(&d, a.Cells...)
		l, f := system.Lineage(db, e, c.At)
		if f != api.OK {
			t.Fatal(text(e), f)
		}
		for k, x := range db {
			db[k].Array.Cells = slices.DeleteFunc(slices.Clone(x.Array.Cells), func(y api.Cell) bool { return !slices.Contains(labels(l), label(x.Name, y.At)) })
		}
		again, f := query.Eval(db, e)
		if k := index(again, c.At); f != api.OK || k < 0 || !sameCell(again.Cells[k], c) {
			t.Fatalf("%s: the cell at %v is another one: %d", text(e), c.At, f)
		}
		met[e.Op]++
	}
	for n := api.EScan; n <= api.ERank; n++ {
		if met[n] < 12 {
			t.Errorf("the operation %d was met only %d times", n, met[n])
		}
	}
}

// aggregates reports whether an expression has a node that is none of those that P12.6 allows below the root.
func aggregates(e api.Expr) bool {
	return e.Op == api.EMerge || e.Op >= api.ERedim || slices.ContainsFunc(e.Args, aggregates)
}
