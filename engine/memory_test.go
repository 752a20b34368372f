package engine_test

import (
	"slices"
	"testing"

	"tesseract/api"
	"tesseract/engine"
)

// R3

func TestNotAStore(t *testing.T) {
	copied := *stored()
	for k, s := range []*engine.Store{nil, {}, new(engine.Store), &copied} {
		for _, x := range []api.Errno{
			s.Put("T", api.Array{}, api.Layout{}), s.Put("u", parse(table), grid(2, 2, 0, 0)), s.Drop("t"), s.Drop("none"),
			s.Move("t", grid(2, 2, 0, 0)), s.Move("none", api.Layout{}), s.Flip("t", list(0, 0), 0), s.Flip("none", nil, -1),
		} {
			if x != api.ErrNil {
				t.Error(k, x)
			}
		}
		if s.Copy() != nil || len(s.Schemas()) != 0 {
			t.Error(k, "a copy, or arrays")
		}
		if l, e := s.Layout("t"); e != api.ErrNil || !sameLayout(l, api.Layout{}) {
			t.Error(k, l, e)
		}
		if l, e := s.Chunks("t"); e != api.ErrNil || len(l) != 0 {
			t.Error(k, l, e)
		}
		if b, e := s.Bytes("t", list(0, 0)); e != api.ErrNil || len(b) != 0 {
			t.Error(k, b, e)
		}
		for _, b := range []api.Box{{}, box(0, 3, 0, 1)} {
			a, n, e := s.Get("t", b)
			refused(t, k, a, n, e, api.ErrNil)
			a, n, e = s.Box(scan("t"), b)
			refused(t, k, a, n, e, api.ErrNil)
			a, n, e = s.Box(api.Expr{}, b)
			refused(t, k, a, n, e, api.ErrNil)
			a, n, e = s.Run(scan("none"), b.Lo)
			refused(t, k, a, n, e, api.ErrNil)
		}
	}
}

// roomy returns a copy of a list with filled elements behind its end.
func roomy[E any](l []E, fill E) []E {
	out := make([]E, len(l), len(l)+3)
	copy(out, l)
	for k := len(l); k < cap(out); k++ {
		out[:cap(out)][k] = fill
	}
	return out
}

// spoil overwrites all elements of a list, also those behind its end.
func spoil[E any](l []E, with E) {
	l = l[:cap(l)]
	for k := range l {
		l[k] = with
	}
}

// roomyScalar, roomyExpr, roomyArray, roomyDB, roomyBox and roomyLayout return copies that share no memory, whose slices have filled elements behind their ends.
func roomyScalar(s api.Scalar) api.Scalar {
	s.Args = roomy(s.Args, use("behind"))
	for k, x := range s.Args {
		s.Args[k] = roomyScalar(x)
	}
	return s
}

func roomyExpr(e api.Expr) api.Expr {
	e.Names, e.Lo, e.Hi = roomy(e.Names, "behind"), roomy(e.Lo, -99), roomy(e.Hi, -99)
	e.Dims, e.Aggs, e.By = roomy(e.Dims, dim("behind", 0, 0)), roomy(e.Aggs, api.Agg{Fn: 1, As: "behind"}), roomyScalar(e.By)
	e.Args = roomy(e.Args, scan("behind"))
	for k, x := range e.Args {
		e.Args[k] = roomyExpr(x)
	}
	return e
}

func roomyArray(a api.Array) api.Array {
	a = api.Array{Dims: roomy(a.Dims, dim("behind", 0, 0)), Attrs: roomy(a.Attrs, api.Attr{Name: "behind"}), Cells: roomy(a.Cells, api.Cell{})}
	for k, c := range a.Cells {
		a.Cells[k] = api.Cell{At: roomy(c.At, -99), Vals: roomy(c.Vals, txt("behind"))}
	}
	return a
}

func roomyDB(db api.DB) api.DB {
	db = roomy(db, api.Named{Name: "behind"})
	for k, x := range db {
		db[k].Array = roomyArray(x.Array)
	}
	return db
}

func roomyBox(b api.Box) api.Box { return api.Box{Lo: roomy(b.Lo, -99), Hi: roomy(b.Hi, -99)} }

func roomyLayout(l api.Layout) api.Layout {
	l.Sides, l.Overlap = roomy(l.Sides, -99), roomy(l.Overlap, -99)
	return l
}

// spoilScalar, spoilExpr, spoilArray, spoilDB, spoilBox and spoilLayout overwrite all memory.
func spoilScalar(s api.Scalar) {
	for _, x := range s.Args {
		spoilScalar(x)
	}
	spoil(s.Args, api.Scalar{Op: 99})
}

func spoilExpr(e api.Expr) {
	for _, x := range e.Args {
		spoilExpr(x)
	}
	spoil(e.Names, "spoiled")
	spoil(e.Lo, -77)
	spoil(e.Hi, -78)
	spoil(e.Dims, dim("spoiled", 0, 0))
	spoil(e.Aggs, api.Agg{})
	spoilScalar(e.By)
	spoil(e.Args, api.Expr{Op: 99})
}

func spoilArray(a api.Array) {
	for _, c := range a.Cells {
		spoil(c.At, -77)
		spoil(c.Vals, api.Val{Kind: 9})
	}
	spoil(a.Dims, dim("spoiled", 0, 0))
	spoil(a.Attrs, api.Attr{})
	spoil(a.Cells, api.Cell{})
}

func spoilDB(db api.DB) {
	for _, x := range db {
		spoilArray(x.Array)
	}
	spoil(db, api.Named{})
}

func spoilBox(b api.Box) {
	spoil(b.Lo, -77)
	spoil(b.Hi, -78)
}

func spoilLayout(l api.Layout) {
	spoil(l.Sides, -77)
	spoil(l.Overlap, -78)
}

// slots counts where the slices of something lie in memory.
type slots map[any]int

// note counts the slice of a list, if it has one.
func note[E any](met slots, l []E) {
	if cap(l) > 0 {
		met[&l[:1][0]]++
	}
}

func (met slots) scalar(s api.Scalar) {
	note(met, s.Args)
	for _, x := range s.Args {
		met.scalar(x)
	}
}

func (met slots) expr(e api.Expr) {
	note(met, e.Names)
	note(met, e.Lo)
	note(met, e.Hi)
	note(met, e.Dims)
	note(met, e.Aggs)
	note(met, e.Args)
	met.scalar(e.By)
	for _, x := range e.Args {
		met.expr(x)
	}
}

func (met slots) array(a api.Array) {
	note(met, a.Dims)
	note(met, a.Attrs)
	note(met, a.Cells)
	for _, c := range a.Cells {
		note(met, c.At)
		note(met, c.Vals)
	}
}

// unshared checks that no two slices begin at the same place.
func (met slots) unshared(t *testing.T, what any) {
	t.Helper()
	for _, n := range met {
		if n > 1 {
			t.Fatalf("%v: slices share memory", what)
		}
	}
}

// R5: rewritten expressions and plans.

func TestMemoryOfExpressions(t *testing.T) {
	planned := read("sub(join(filter(filter(t; (.v > 1)); (@x < 3)), u); 0:1, 0:0)")
	for _, x := range rewritings() {
		e := read(x[1])
		if x[0] == "sub-merge" && x[2] != "" { // operands, and their scalars, that share memory
			e = planned
			x = [3]string{"sub-join", text(e), "join(sub(filter(filter(t; (.v > 1)); (@x < 3)); 0:1, 0:0), sub(u; 0:0))"}
		}
		db := roomyDB(base())
		e = roomyExpr(e)
		a, is := engine.Rewrite(db, e, x[0])
		b, _ := engine.Rewrite(db, e, x[0])
		plan, steps, _ := engine.Plan(db, e)
		planText, stepText := "", stepsText(steps)
		met := slots{}
		if is {
			met.expr(a)
			met.expr(b)
		}
		if plan.Op != 0 {
			planText = text(plan)
			met.expr(plan)
			for _, step := range steps {
				note(met, step.Path)
			}
		}
		met.expr(e)
		met.unshared(t, x)
		if is {
			spoilExpr(a)
		}
		if again := roomyExpr(read(x[1])); text(e) != x[1] || !sameRoom(e, again) {
			t.Fatalf("%v: an argument was changed", x)
		}
		spoilExpr(e)
		spoilDB(db)
		if is && text(b) != x[2] || plan.Op != 0 && (text(plan) != planText || stepsText(steps) != stepText) {
			t.Fatalf("%v: a result was changed", x)
		}
	}
	// One slice for the bounds of all nodes, and one for all operands.
	bounds := roomy(list(0, 1), -99)
	shared := api.Expr{Op: api.ESub, Lo: bounds, Hi: bounds[:2:2], Args: []api.Expr{{Op: api.EMerge, Args: slices.Repeat([]api.Expr{{Op: api.ESub, Lo: bounds, Hi: bounds, Args: []api.Expr{scan("t")}}}, 2)}}}
	out, is := engine.Rewrite(base(), shared, "sub-merge")
	met := slots{}
	met.expr(out)
	if met.unshared(t, "shared bounds"); !is || text(out) != "merge(sub(sub(t; 0:0, 1:1); 0:0, 1:1), sub(sub(t; 0:0, 1:1); 0:0, 1:1))" {
		t.Error(is, out)
	}
}

// sameRoom reports whether the lists of two expressions are the same behind their ends, too.
func sameRoom(a, b api.Expr) bool {
	same := slices.Equal(a.Names[:cap(a.Names)], b.Names[:cap(b.Names)]) && slices.Equal(a.Lo[:cap(a.Lo)], b.Lo[:cap(b.Lo)]) && slices.Equal(a.Hi[:cap(a.Hi)], b.Hi[:cap(b.Hi)]) &&
		slices.Equal(a.Dims[:cap(a.Dims)], b.Dims[:cap(b.Dims)]) && slices.Equal(a.Aggs[:cap(a.Aggs)], b.Aggs[:cap(b.Aggs)]) && len(a.Args) == len(b.Args)
	for k := range a.Args[:cap(a.Args)] {
		x, y := a.Args[:cap(a.Args)][k], b.Args[:cap(b.Args)][k]
		same = same && x.Op == y.Op && x.Name == y.Name
		if k < len(a.Args) {
			same = same && sameRoom(x, y)
		}
	}
	return same
}

// R5: needs.

func TestMemoryOfNeeds(t *testing.T) {
	db, e := roomyDB(base()), roomyExpr(read("merge(cross(t, o), cross(window(t; 0:0, 0:0; sum(v) as v), o))"))
	b := roomyBox(box(0, 1, 0, 1, 5, 6))
	l, f := engine.Needs(db, e, b)
	again, g := engine.Needs(db, e, b)
	if f != api.OK || g != api.OK || needText(l) != "o 5:6; t 0:1, 0:1" {
		t.Fatal(f, g, l)
	}
	met := slots{}
	for _, n := range slices.Concat(l, again) {
		note(met, n.Box.Lo)
		note(met, n.Box.Hi)
	}
	note(met, b.Lo)
	note(met, b.Hi)
	met.unshared(t, "needs")
	for _, n := range l {
		spoilBox(n.Box)
	}
	if boxText(b) != "0:1, 0:1, 5:6" || b.Lo[:cap(b.Lo)][3] != -99 || !sameRoom(e, roomyExpr(read(text(e)))) {
		t.Error("an argument was changed")
	}
	spoilBox(b)
	spoilExpr(e)
	spoilDB(db)
	if needText(again) != "o 5:6; t 0:1, 0:1" {
		t.Error("a result was changed")
	}
}

// R5: stores.

func TestMemoryOfStores(t *testing.T) {
	want := model{api.DB{{Name: "t", Array: parse(table)}}, map[string]api.Layout{"t": grid(2, 2, 1, 0)}, nil}
	s := engine.New()
	a, l := roomyArray(parse(table)), roomyLayout(grid(2, 2, 1, 0))
	if e := s.Put("t", a, l); e != api.OK {
		t.Fatal(e)
	}
	if !sameArray(a, parse(table)) || !sameLayout(l, grid(2, 2, 1, 0)) {
		t.Error("an argument was changed")
	}
	spoilArray(a)
	spoilLayout(l)
	want.compares(t, s)
	spoilDB(s.Schemas())
	x, _ := s.Layout("t")
	spoilLayout(x)
	numbers, _ := s.Chunks("t")
	for _, no := range numbers {
		b, _ := s.Bytes("t", no)
		spoil(b, 0)
		spoil(no, 7)
	}
	spoil(numbers, nil)
	want.compares(t, s)
	l = roomyLayout(grid(1, 2, 0, 1))
	if e := s.Move("t", l); e != api.OK {
		t.Fatal(e)
	}
	spoilLayout(l)
	want.layouts["t"] = grid(1, 2, 0, 1)
	want.compares(t, s)
}

func TestMemoryOfCells(t *testing.T) {
	s := stored()
	for _, x := range []string{"t", "sub(t; 0:3, 0:1)", "merge(t, filter(t; true))", "redim(t; x 0:3, y 0:1; v; last)"} {
		for _, b := range []api.Box{box(0, 3, 0, 1), box(1, 2, 0, 1), box(4, 5, 0, 1)} {
			b := roomyBox(b)
			e := roomyExpr(read(x))
			sides := roomy(list(2, 1), -99)
			get, _, f := s.Get("t", b)
			cut, _, g := s.Box(e, b)
			run, _, h := s.Run(e, sides)
			if f != api.OK || g != api.OK || h != api.OK || !sameArray(get, cut) || !sameArray(run, parse(table)) {
				t.Fatal(x, f, g, h)
			}
			met := slots{}
			met.array(get)
			met.array(cut)
			met.array(run)
			met.expr(e)
			met.unshared(t, x)
			cells := len(get.Cells)
			spoilArray(get)
			spoilArray(run)
			spoilArray(cut)
			if !sameRoom(e, roomyExpr(read(x))) || !slices.Equal(sides[:cap(sides)], list(2, 1, -99, -99, -99)) || b.Hi[:cap(b.Hi)][2] != -99 {
				t.Error("an argument was changed")
			}
			if a, _, f := s.Get("t", b); f != api.OK || len(a.Cells) != cells {
				t.Error("the store was changed")
			}
		}
	}
}

// R4

func TestNilAndEmpty(t *testing.T) {
	s := engine.New()
	a := parse(table)
	a.Cells = []api.Cell{}
	if e := s.Put("t", a, grid(2, 2, 0, 0)); e != api.OK {
		t.Error(e)
	}
	e := api.Expr{Op: api.EFilter, Names: []string{}, Lo: []int{}, Hi: []int{}, Dims: []api.Dim{}, Aggs: []api.Agg{}, By: constant(api.Val{Kind: api.KBool, N: 1}), Args: []api.Expr{{Op: api.EScan, Name: "t", Args: []api.Expr{}}}}
	e.By.Args = []api.Scalar{}
	if got, _, f := s.Run(e, list(0, 0)); f != api.OK || len(got.Cells) != 0 {
		t.Error(f)
	}
	if out, is := engine.Rewrite(base(), e, "filter-true"); !is || text(out) != "t" {
		t.Error(is, out)
	}
	for _, b := range []api.Box{{}, {Lo: []int{}, Hi: []int{}}} {
		if _, f := engine.Needs(base(), e, b); f != api.ErrShape {
			t.Error(f)
		}
	}
	if _, e := s.Bytes("t", []int{}); e != api.ErrNone {
		t.Error(e)
	}
}
