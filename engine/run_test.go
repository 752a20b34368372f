package engine_test

import (
	"fmt"
	"math"
	"slices"
	"testing"

	"tesseract/api"
	"tesseract/engine"
	"tesseract/query"
	"tesseract/space"
)

// separate returns an expression whose scans have different names, and a database for it with other cells for each of them.
func (d *dice) separate(db api.DB, e api.Expr) (api.Expr, api.DB) {
	var out api.DB
	var visit func(e api.Expr) api.Expr
	visit = func(e api.Expr) api.Expr {
		if e.Op == api.EScan {
			a, _ := space.Find(db, e.Name)
			name := "s" + letters[len(out):][:1]
			out = with(out, name, d.cells(a, d.from(0, 14)))
			return scan(name)
		}
		e.Args = slices.Clone(e.Args)
		for k, x := range e.Args {
			e.Args[k] = visit(x)
		}
		return e
	}
	return visit(e), out
}

// decoded returns how many chunks are decoded for a box of an expression whose scans have different names.
func decoded(db api.DB, s *engine.Store, e api.Expr, b api.Box) int {
	out := 0
	needs, _ := engine.Needs(db, e, b)
	for _, n := range needs {
		a, _ := space.Find(db, n.Name)
		l, _ := s.Layout(n.Name)
		out += len(specChunks(a, l, n.Box))
	}
	return out
}

// P7.7

func TestBox(t *testing.T) {
	db := base()
	d := dice(77)
	s := d.store(db)
	for _, name := range names("t", "o") {
		a, _ := space.Find(db, name)
		l := grid(2, 2, 1, 0)
		if name == "o" {
			l = grid(4, 0)
		}
		if s.Move(name, l) != api.OK || len(a.Cells) == 0 {
			t.Fatal("an error")
		}
	}
	const sums = "dim x 0:3\ndim y 0:1\nattr s int\n"
	for _, x := range []struct {
		e      string
		b      api.Box
		want   string
		chunks int
	}{
		{"t", box(1, 2, 0, 1), "dim x 0:3\ndim y 0:1\nattr v int\n1 0: 7\n1 1: ?1\n", 1},
		{"t", box(4, 9, 0, 1), "dim x 0:3\ndim y 0:1\nattr v int\n", 0},
		{"o", box(-9, api.Open), "dim p -4:*\nattr n int\n-4: 1\n0: 2\n5: 3\n1073741824: 4\n", 4},
		{"o", box(api.MaxCoord+1, api.Open), "dim p -4:*\nattr n int\n", 0},
		{"window(t; 1:1, 0:0; sum(v) as s)", box(1, 1, 0, 9), sums + "1 0: 12\n1 1: ?4\n", 1},
		{"window(t; 1:2, 0:0; sum(v) as s)", box(1, 1, 0, 9), sums + "1 0: 12\n1 1: 2\n", 2},
		{"window(t; 1:1, 0:0; sum(v) as s)", box(1, 1, 2, 9), sums, 0},
		// each scan counts
		{"merge(sub(t; 0:0, 0:1), sub(t; 3:3, 0:1))", box(-1, 9, 0, 1), "dim x 0:3\ndim y 0:1\nattr v int\n0 0: 5\n3 1: 2\n", 2},
		{"merge(sub(t; 0:0, 0:1), sub(t; 3:3, 0:1))", box(2, 9, 0, 1), "dim x 0:3\ndim y 0:1\nattr v int\n3 1: 2\n", 1},
		{"merge(sub(t; 0:0, 0:1), sub(t; 3:3, 0:1))", box(1, 2, 0, 1), "dim x 0:3\ndim y 0:1\nattr v int\n", 0},
		{"join(t, rename(t; v, w))", box(1, 3, 0, 1), "dim x 0:3\ndim y 0:1\nattr v int\nattr w int\n1 0: 7, 7\n1 1: ?1, ?1\n3 1: 2, 2\n", 2},
		{"join(t, rename(t; v, w))", box(0, 3, 0, 0), "dim x 0:3\ndim y 0:1\nattr v int\nattr w int\n0 0: 5, 5\n1 0: 7, 7\n", 4},
		{"cross(t, o)", box(1, 1, 0, 0, -4, 2), "dim x 0:3\ndim y 0:1\ndim p -4:*\nattr v int\nattr n int\n1 0 -4: 7, 1\n1 0 0: 7, 2\n", 3},
		// what an operand has beyond its box is not counted
		{"group(window(t; 3:0, 1:0; count() as c); x 0:9; sum(c) as s)", box(1, 2), "dim x 0:9\nattr s int\n1: 5\n", 1},
		{"rank(t; v, x; r)", box(1, 1, 0, 0), "dim x 0:3\ndim y 0:1\nattr v int\nattr r int\n1 0: 7, 1\n", 1},
		{"regrid(t; 3, 1; count() as s)", box(1, 1, 0, 1), "dim x 0:1\ndim y 0:1\nattr s int\n1 1: 1\n", 1},
	} {
		a, n, f := s.Box(read(x.e), x.b)
		expect(t, x.e+" at "+boxText(x.b), a, f, parse(x.want), api.OK)
		if n != (engine.Stats{Boxes: 1, Chunks: x.chunks}) {
			t.Errorf("%s at %s: %v", x.e, boxText(x.b), n)
		}
	}
}

func TestBoxRefuses(t *testing.T) {
	d := dice(78)
	s := d.store(base())
	for _, x := range []struct {
		e    api.Expr
		b    api.Box
		want api.Errno
	}{
		{scan("none"), api.Box{}, api.ErrNone}, {read("filter(none; true)"), box(0, 1), api.ErrNone}, {read("project(t; w)"), box(0, 1, 0, 1), api.ErrName},
		{api.Expr{}, box(0, 1, 0, 1), api.ErrArg}, {read("sub(t; 4:9, 0:1)"), box(0, 1), api.ErrRange},
		{scan("t"), api.Box{}, api.ErrShape}, {scan("t"), box(0, 1), api.ErrShape}, {scan("o"), box(0, 1, 0, 1), api.ErrShape},
		{scan("t"), api.Box{Lo: list(0, 0), Hi: list(1)}, api.ErrShape}, {scan("t"), api.Box{Lo: list(0), Hi: list(1, 1)}, api.ErrShape},
		{read("group(t; x 0:3; count() as c)"), box(0, 1, 0, 1), api.ErrShape},
	} {
		a, n, f := s.Box(x.e, x.b)
		refused(t, x, a, n, f, x.want)
	}
	empty := engine.New()
	a, n, f := empty.Box(scan("t"), box(0, 1))
	refused(t, "an empty store", a, n, f, api.ErrNone)
}

// The errors of reading come before those of the cells, and are those of what is read.
func TestBoxReads(t *testing.T) {
	d := dice(79)
	s := d.store(base())
	conflict := "redim(t; y 0:1; v; fail)"
	for _, name := range names("u", "o", "g") {
		l, _ := s.Chunks(name)
		for _, no := range l {
			if s.Flip(name, no, 7) != api.OK {
				t.Fatal("an error")
			}
		}
	}
	for _, x := range []struct {
		e    string
		b    api.Box
		want []api.Errno
	}{
		{"cross(" + conflict + ", rename(o; n, m))", box(0, 1, -4, 9), []api.Errno{api.ErrSum}},
		{"cross(rename(o; n, m), " + conflict + ")", box(-4, 9, 0, 1), []api.Errno{api.ErrSum}},
		{"cross(" + conflict + ", rename(o; n, m))", box(2, 3, -4, 9), []api.Errno{api.OK}},
		{"cross(" + conflict + ", rename(o; n, m))", box(0, 1, -4, -5), []api.Errno{api.OK}},
		{"join(t, u)", box(0, 3, 0, 1), []api.Errno{api.ErrSum}},
		{"join(t, u)", box(4, 5, 0, 1), []api.Errno{api.OK}},
		{"merge(t, project(rename(t2; v, v); v))", box(-9, 9, 0, 1), []api.Errno{api.OK}},
		{conflict, box(0, 1), []api.Errno{api.ErrConflict, api.OK}},
		{conflict, box(0, 0), []api.Errno{api.ErrConflict, api.OK}},
	} {
		a, n, f := s.Box(read(x.e), x.b)
		if !slices.Contains(x.want, f) {
			t.Errorf("%s at %s: error %d", x.e, boxText(x.b), f)
		}
		if f != api.OK {
			refused(t, x.e, a, n, f, f)
		} else if schema := must(query.Schema(base(), read(x.e))); !sameSchema(a, schema) || space.Check(a) != api.OK {
			t.Errorf("%s: %v has another schema", x.e, a)
		}
	}
}

// P7.7, P7.11, P7.12

func TestBoxByModel(t *testing.T) {
	d := dice(80)
	met := map[int]int{}
	damaged := 0
	for range 3000 {
		e, db := d.separate(base(), d.denoting(base(), d.from(1, 5)))
		a, f := query.Eval(db, e)
		if f != api.OK {
			continue
		}
		b := d.box(a.Dims)
		s := d.store(db)
		want := must(space.Cut(a, b))
		stats := engine.Stats{Boxes: 1, Chunks: decoded(db, s, e, b)}
		got, n, f := s.Box(e, b)
		expect(t, text(e)+" at "+boxText(b), got, f, want, api.OK)
		if n != stats {
			t.Fatalf("%s at %s: %v, not %v", text(e), boxText(b), n, stats)
		}
		met[e.Op] += min(len(want.Cells), 1)
		damaged += damage(t, &d, db, s, e, b, want, stats)
	}
	for n := api.EScan; n <= api.ERank; n++ {
		if met[n] < 15 {
			t.Errorf("the operation %d was met only %d times", n, met[n])
		}
	}
	if damaged < 100 {
		t.Error(damaged)
	}
}

// damage changes a bit of a chunk: then a box has an error if it decodes this chunk, and otherwise it is what it was. It reports 1 for an error.
func damage(t *testing.T, d *dice, db api.DB, s *engine.Store, e api.Expr, b api.Box, want api.Array, stats engine.Stats) int {
	t.Helper()
	x := pick(d, db...)
	numbers, _ := s.Chunks(x.Name)
	if len(numbers) == 0 {
		return 0
	}
	no := pick(d, numbers...)
	s.Flip(x.Name, no, d.from(0, 71))
	l, _ := s.Layout(x.Name)
	needs, _ := engine.Needs(db, e, b)
	for _, n := range needs {
		if n.Name == x.Name && slices.ContainsFunc(specChunks(x.Array, l, n.Box), func(other []int) bool { return slices.Equal(other, no) }) {
			got, n, f := s.Box(e, b)
			refused(t, text(e), got, n, f, api.ErrSum)
			return 1
		}
	}
	got, n, f := s.Box(e, b)
	expect(t, text(e)+" at "+boxText(b)+" with a damaged chunk", got, f, want, api.OK)
	if n != stats {
		t.Fatal(text(e), n)
	}
	return 0
}

// specBoxes returns the boxes of a run.
func specBoxes(dims []api.Dim, sides []int) []api.Box {
	out := []api.Box{{}}
	for k, d := range dims {
		var parts [][2]int
		if d.Hi == api.Open || sides[k] == 0 {
			parts = append(parts, [2]int{d.Lo, d.Hi})
		} else {
			for lo := d.Lo; lo <= d.Hi; lo += min(sides[k], 1<<40) {
				parts = append(parts, [2]int{lo, min(lo+min(sides[k], 1<<40)-1, d.Hi)})
			}
		}
		var next []api.Box
		for _, b := range out {
			for _, p := range parts {
				next = append(next, api.Box{Lo: append(slices.Clone(b.Lo), p[0]), Hi: append(slices.Clone(b.Hi), p[1])})
			}
		}
		out = next
	}
	return out
}

// P7.8

func TestRun(t *testing.T) {
	s := stored()
	if s.Move("t", grid(2, 2, 0, 0)) != api.OK || s.Put("o", base()[2].Array, grid(4, 0)) != api.OK {
		t.Fatal("an error")
	}
	for _, x := range []struct {
		e     string
		sides []int
		want  engine.Stats
	}{
		{"t", list(2, 0), engine.Stats{Boxes: 2, Chunks: 2}}, // the example of the chapter
		{"t", list(0, 0), engine.Stats{Boxes: 1, Chunks: 2}},
		{"t", list(1, 1), engine.Stats{Boxes: 8, Chunks: 8}},
		{"t", list(3, 9), engine.Stats{Boxes: 2, Chunks: 3}},
		{"t", list(math.MaxInt, math.MaxInt), engine.Stats{Boxes: 1, Chunks: 2}},
		{"o", list(0), engine.Stats{Boxes: 1, Chunks: 4}},
		{"o", list(1), engine.Stats{Boxes: 1, Chunks: 4}},
		{"sub(o; -4:5)", list(4), engine.Stats{Boxes: 3, Chunks: 3}},
		{"sub(o; -4:251)", list(1), engine.Stats{Boxes: 256, Chunks: 12}},
		{"sub(o; -1073741824:1073741824)", list(8388608), engine.Stats{Boxes: 129, Chunks: 4}},
		{"concat(t, t; x)", list(4, 1), engine.Stats{Boxes: 4, Chunks: 8}},
		{"cross(t, rename(o; n, m))", list(2, 2, 5), engine.Stats{Boxes: 2, Chunks: 10}},
	} {
		db := api.DB{{Name: "t", Array: parse(table)}, base()[2]}
		want := must(query.Eval(db, read(x.e)))
		a, n, f := s.Run(read(x.e), x.sides)
		expect(t, x.e+fmt.Sprint(x.sides), a, f, want, api.OK)
		if n != x.want {
			t.Errorf("%s %v: %v, not %v", x.e, x.sides, n, x.want)
		}
	}
}

func TestRunRefuses(t *testing.T) {
	s := stored()
	far := func(name string) api.Dim { return dim(name, -api.MaxCoord, api.MaxCoord) }
	large := api.Array{Dims: []api.Dim{far("a"), far("b"), far("c"), far("d")}, Attrs: []api.Attr{{Name: "v", Type: api.TInt}}}
	if s.Put("large", large, grid(1, 1, 1, 1, 0, 0, 0, 0)) != api.OK || s.Put("o", base()[2].Array, grid(4, 0)) != api.OK {
		t.Fatal("an error")
	}
	for _, x := range []struct {
		e     api.Expr
		sides []int
		want  api.Errno
	}{
		{scan("t"), list(-1, 0), api.ErrArg}, // the example of the chapter
		{scan("t"), list(0, math.MinInt), api.ErrArg},
		{scan("t"), nil, api.ErrShape}, {scan("t"), list(2), api.ErrShape}, {scan("t"), list(-1), api.ErrShape}, {scan("t"), list(2, 0, 1), api.ErrShape},
		{scan("none"), list(-1), api.ErrNone}, {read("project(t; w)"), nil, api.ErrName}, {api.Expr{}, list(2, 0), api.ErrArg},
		{read("sub(o; -4:252)"), list(1), api.ErrMany}, {read("sub(o; -4:*)"), list(-1), api.ErrArg},
		{scan("large"), list(1, 1, 1, 1), api.ErrMany}, {scan("large"), list(1, 1, 1, -1), api.ErrArg}, {scan("large"), list(1<<31, 1<<28, 1<<28, 1<<28), api.ErrMany},
		{scan("large"), list(8388608, 0, 0, 0), api.ErrMany}, // 2^31 + 1 coordinates are divided into 257 parts
	} {
		a, n, f := s.Run(x.e, x.sides)
		refused(t, x, a, n, f, x.want)
	}
	a, n, f := s.Run(scan("large"), list(8388609, 0, 0, 0))
	expect(t, "256 boxes", a, f, large, api.OK)
	if n != (engine.Stats{Boxes: 256}) {
		t.Error(n)
	}
	if s.Flip("t", list(1, 0), 0) != api.OK {
		t.Fatal("an error")
	}
	a, n, f = s.Run(scan("t"), list(1, 0))
	refused(t, "the third box has an error", a, n, f, api.ErrSum)
	a, n, f = s.Run(scan("t"), list(-1, 0))
	refused(t, "sides and a damaged chunk", a, n, f, api.ErrArg)
}

// If Eval returns ErrMany or ErrConflict, a run returns one of them, or some valid array.
func TestRunOfNoArray(t *testing.T) {
	s := engine.New()
	db := api.DB{{Name: "l", Array: line(70)}, {Name: "m", Array: must(query.Eval(api.DB{{Name: "l", Array: line(70)}}, read("rename(rename(l; x, y); v, w)")))}}
	for _, x := range db {
		if e := s.Put(x.Name, x.Array, grid(64, 0)); e != api.OK {
			t.Fatal(e)
		}
	}
	for _, x := range []struct {
		e     string
		sides []int
		want  api.Errno
	}{
		{"cross(l, m)", list(0, 0), api.ErrMany}, {"cross(l, m)", list(10000, 1000), api.ErrMany}, {"cross(l, m)", list(1000, 0), api.ErrMany},
		{"redim(l; v 0:9; x; fail)", list(0), api.ErrConflict}, {"redim(l; v 0:9; x; fail)", list(1), api.ErrConflict},
		{"group(redim(l; v 0:9; x; fail); v 20:29; count() as c)", list(1), api.ErrConflict},
		{"group(cross(l, m); x 0:0; count() as c)", list(0), api.ErrMany},
	} {
		if _, f := query.Eval(db, read(x.e)); f != x.want {
			t.Fatal(x.e, f)
		}
		a, n, f := s.Run(read(x.e), x.sides)
		if f != api.OK && f != api.ErrMany && f != api.ErrConflict {
			t.Error(x.e, f)
		}
		if f != api.OK {
			refused(t, x.e, a, n, f, f)
		} else if !sameSchema(a, schema(db, read(x.e))) || space.Check(a) != api.OK {
			t.Error(x.e, a)
		}
	}
}

// P7.8, P7.9, P7.11: neither layouts nor sides nor plans matter.
func TestRunByModel(t *testing.T) {
	d := dice(81)
	met := map[int]int{}
	several := 0
	for range 2000 {
		e, db := d.separate(base(), d.denoting(base(), d.from(1, 5)))
		a, f := query.Eval(db, e)
		if f != api.OK {
			continue
		}
		sides := many(len(a.Dims), func() int { return pick(&d, 0, 1, 2, 3, 7, 1<<20, math.MaxInt) })
		s := d.store(db)
		plan, _, f := engine.Plan(db, e)
		if f != api.OK {
			t.Fatal(f)
		}
		boxes := specBoxesOrNone(a.Dims, sides)
		want := engine.Stats{Boxes: len(boxes)}
		for _, b := range boxes {
			want.Chunks += decoded(db, s, e, b)
		}
		got, n, f := s.Run(e, sides)
		if boxes == nil {
			refused(t, text(e), got, n, f, api.ErrMany)
			continue
		}
		expect(t, text(e), got, f, a, api.OK)
		if n != want {
			t.Fatalf("%s by %v: %v, not %v", text(e), sides, n, want)
		}
		got, _, f = s.Run(plan, sides)
		expect(t, text(plan), got, f, a, api.OK)
		met[e.Op] += min(len(a.Cells), 1)
		several += min(len(boxes), 2) - 1
	}
	for n := api.EScan; n <= api.ERank; n++ {
		if met[n] < 15 {
			t.Errorf("the operation %d was met only %d times", n, met[n])
		}
	}
	if several < 300 {
		t.Error(several)
	}
}

// specBoxesOrNone returns the boxes of a run, none if there are too many.
func specBoxesOrNone(dims []api.Dim, sides []int) []api.Box {
	count := 1
	for k, d := range dims {
		if d.Hi != api.Open && sides[k] > 0 {
			count *= (d.Hi-d.Lo)/sides[k] + 1
		}
		if count > engine.MaxBoxes {
			return nil
		}
	}
	return specBoxes(dims, sides)
}
