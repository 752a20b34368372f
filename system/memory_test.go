package system_test

import (
	"slices"
	"strings"
	"sync"
	"testing"

	"tesseract/api"
	"tesseract/query"
	"tesseract/system"
)

// R3

func TestNotASystem(t *testing.T) {
	copied := *begun(t)
	for k, s := range []*system.System{nil, {}, new(system.System), &copied} {
		for _, line := range []string{"", "show t", "select * from t", strings.Repeat("x", api.MaxLine+1), "\x00"} {
			if answer, e := s.Do(line); answer != "" || e != api.ErrNil {
				t.Errorf("%d: Do of %.20q: %q and the error %d", k, line, answer, e)
			}
		}
		for _, script := range []string{"", "show t\nshow t", strings.Repeat("x", 1<<16+1)} {
			if answer, e := s.Run(script); answer != "" || e != api.ErrNil {
				t.Errorf("%d: Run of %.20q: %q and the error %d", k, script, answer, e)
			}
		}
	}
}

// roomy returns a copy of a list with filled elements behind its end.
func roomy[E any](l []E, fill E) []E {
	out := make([]E, len(l), len(l)+3)
	copy(out, l)
	for k := len(l); k < cap(out); k++ {
		out[:cap(out)][k] = fill
	}
	return out
}

// spoil overwrites all elements of a list, also those behind its end.
func spoil[E any](l []E, with E) {
	l = l[:cap(l)]
	for k := range l {
		l[k] = with
	}
}

// roomyScalar, roomyExpr and roomyArray return copies that share no memory, whose slices have filled elements behind their ends.
func roomyScalar(s api.Scalar) api.Scalar {
	s.Args = roomy(s.Args, use("behind"))
	for k, x := range s.Args {
		s.Args[k] = roomyScalar(x)
	}
	return s
}

func roomyExpr(e api.Expr) api.Expr {
	e.Names, e.Lo, e.Hi = roomy(e.Names, "behind"), roomy(e.Lo, -99), roomy(e.Hi, -99)
	e.Dims, e.Aggs, e.By = roomy(e.Dims, dim("behind", 0, 0)), roomy(e.Aggs, api.Agg{Fn: 1, As: "behind"}), roomyScalar(e.By)
	e.Args = roomy(e.Args, scan("behind"))
	for k, x := range e.Args {
		e.Args[k] = roomyExpr(x)
	}
	return e
}

func roomyArray(a api.Array) api.Array {
	a = api.Array{Dims: roomy(a.Dims, dim("behind", 0, 0)), Attrs: roomy(a.Attrs, api.Attr{Name: "behind"}), Cells: roomy(a.Cells, api.Cell{})}
	for k, c := range a.Cells {
		a.Cells[k] = api.Cell{At: roomy(c.At, -99), Vals: roomy(c.Vals, txt("behind"))}
	}
	return a
}

// spoilScalar, spoilExpr, spoilArray, and spoilDB overwrite all memory.
func spoilScalar(s api.Scalar) {
	for _, x := range s.Args {
		spoilScalar(x)
	}
	spoil(s.Args, api.Scalar{Op: 99})
}

func spoilExpr(e api.Expr) {
	for _, x := range e.Args {
		spoilExpr(x)
	}
	spoil(e.Names, "spoiled")
	spoil(e.Lo, -77)
	spoil(e.Hi, -78)
	spoil(e.Dims, dim("spoiled", 0, 0))
	spoil(e.Aggs, api.Agg{})
	spoilScalar(e.By)
	spoil(e.Args, api.Expr{Op: 99})
}

func spoilArray(a api.Array) {
	for _, c := range a.Cells {
		spoil(c.At, -77)
		spoil(c.Vals, api.Val{Kind: 9})
	}
	spoil(a.Dims, dim("spoiled", 0, 0))
	spoil(a.Attrs, api.Attr{})
	spoil(a.Cells, api.Cell{})
}

func spoilDB(db api.DB) {
	for _, x := range db {
		spoilArray(x.Array)
	}
	spoil(db, api.Named{})
}

// slots counts where the slices of something lie in memory.
type slots map[any]int

// note counts the slice of a list, if it has one.
func note[E any](met slots, l []E) {
	if cap(l) > 0 {
		met[&l[:1][0]]++
	}
}

func (met slots) array(a api.Array) {
	note(met, a.Dims)
	note(met, a.Attrs)
	note(met, a.Cells)
	for _, c := range a.Cells {
		note(met, c.At)
		note(met, c.Vals)
	}
}

func (met slots) expr(e api.Expr) {
	note(met, e.Names)
	note(met, e.Lo)
	note(met, e.Hi)
	note(met, e.Dims)
	note(met, e.Aggs)
	note(met, e.Args)
	for _, x := range e.Args {
		met.expr(x)
	}
}

// unshared checks that no two slices begin at the same place.
func (met slots) unshared(t *testing.T, what any) {
	t.Helper()
	for _, n := range met {
		if n > 1 {
			t.Fatalf("%v: slices share memory", what)
		}
	}
}

// R5

func TestMemory(t *testing.T) {
	for _, x := range []string{"t", "sub(t; 0:3, 0:1)", "merge(t, t)", "filter(t; true)", "group(t; x 0:3, y 0:1; max(v) as v)", "window(t; 0:0, 0:0; max(v) as v)", "transpose(transpose(t; y, x); x, y)", "redim(t; x 0:3, y 0:1; v; last)", "vary(t; x 0:0; sum(v) as v)", "rename(t; v, v)"} {
		db, e, at := api.DB{{Name: "t", Array: roomyArray(parse(table))}}, roomyExpr(read(x)), roomy(list(1, 1), -99)
		met := slots{}
		met.array(db[0].Array)
		met.expr(e)
		note(met, at)
		var lineages [][]system.Source
		var impacts [][][]int
		for range 3 {
			l, f := system.Lineage(db, e, at)
			m, g := system.Impact(db, e, "t", at)
			if f != api.OK || g != api.OK || !slices.Equal(labels(l), []string{"t[1 1]"}) || len(m) != 1 || !slices.Equal(m[0], list(1, 1)) {
				t.Fatal(x, l, m, f, g)
			}
			note(met, l)
			note(met, m)
			note(met, l[0].At)
			note(met, m[0])
			lineages, impacts = append(lineages, l), append(impacts, m)
		}
		met.unshared(t, x)
		if text(e) != x || !sameArray(db[0].Array, parse(table)) || !slices.Equal(at[:cap(at)][:3], list(1, 1, -99)) || db[0].Array.Cells[0].At[:3][2] != -99 || e.Lo[:cap(e.Lo)][len(e.Lo)] != -99 || e.Args[:cap(e.Args)][len(e.Args)].Name != "behind" {
			t.Error("an argument was changed")
		}
		spoilDB(db)
		spoilExpr(e)
		spoil(at, 7)
		for k := range 2 {
			spoil(lineages[k][0].At, 7)
			spoil(lineages[k], system.Source{})
			spoil(impacts[k][0], 7)
			spoil(impacts[k], nil)
		}
		if !slices.Equal(labels(lineages[2]), []string{"t[1 1]"}) || !slices.Equal(impacts[2][0], list(1, 1)) {
			t.Error(x, "a result was changed")
		}
	}
}

// Several cells of a result share no memory with each other.
func TestMemoryOfSources(t *testing.T) {
	met := slots{}
	l, f := system.Lineage(base(), read("group(concat(t, t; x); y 0:1; count() as n)"), list(1))
	m, g := system.Impact(base(), read("concat(t, window(t; 3:3, 1:1; sum(v) as v); x)"), "t", list(1, 1))
	if f != api.OK || g != api.OK || len(l) != 2 || len(m) != 5 {
		t.Fatal(l, m, f, g)
	}
	for _, s := range l {
		note(met, s.At)
	}
	for _, at := range m {
		note(met, at)
	}
	met.unshared(t, "sources")
}

// R4

func TestNilAndEmpty(t *testing.T) {
	e := api.Expr{Op: api.EFilter, Names: []string{}, Lo: []int{}, Hi: []int{}, Dims: []api.Dim{}, Aggs: []api.Agg{}, By: constant(api.Val{Kind: api.KBool, N: 1}), Args: []api.Expr{{Op: api.EScan, Name: "t", Args: []api.Expr{}}}}
	e.By.Args = []api.Scalar{}
	if l, f := system.Lineage(base(), e, list(1, 1)); f != api.OK || !slices.Equal(labels(l), []string{"t[1 1]"}) {
		t.Error(l, f)
	}
	for _, at := range [][]int{nil, {}} {
		if l, f := system.Lineage(base(), e, at); f != api.ErrShape || len(l) != 0 {
			t.Error(l, f)
		}
		if l, f := system.Impact(base(), e, "t", at); f != api.ErrNone || len(l) != 0 {
			t.Error(l, f)
		}
	}
	for _, db := range []api.DB{nil, {}} {
		if l, f := system.Lineage(db, e, nil); f != api.ErrNone || len(l) != 0 {
			t.Error(l, f)
		}
	}
}

// An expression that has no end, and one whose operands share memory.
func TestSharedOperands(t *testing.T) {
	endless := api.Expr{Op: api.EMerge, Args: make([]api.Expr, 2)}
	endless.Args[0], endless.Args[1] = endless, scan("t")
	if l, f := system.Lineage(base(), endless, list(1, 1)); f != api.ErrDeep || len(l) != 0 {
		t.Error(l, f)
	}
	if l, f := system.Impact(base(), endless, "t", list(1, 1)); f != api.ErrDeep || len(l) != 0 {
		t.Error(l, f)
	}
	e := scan("t")
	for range 5 {
		e = api.Expr{Op: api.EMerge, Args: slices.Repeat([]api.Expr{e}, 2)} // 63 nodes
	}
	if l, f := system.Lineage(base(), e, list(1, 1)); f != api.OK || !slices.Equal(labels(l), []string{"t[1 1]"}) {
		t.Error(l, f)
	}
}

// R9: Systems have nothing in common, and lineages change nothing.
func TestTogether(t *testing.T) {
	want := answersOf(t, manyLines())
	db, e := base(), read("window(join(t, u); 1:1, 1:1; sum(v) as s)")
	a, _ := query.Eval(db, e)
	l, _ := system.Lineage(db, e, a.Cells[0].At)
	var wait sync.WaitGroup
	for range 8 {
		wait.Add(1)
		go func() {
			defer wait.Done()
			if !slices.Equal(answersOf(t, manyLines()), want) {
				t.Error("other answers")
			}
			if m, f := system.Lineage(db, e, a.Cells[0].At); f != api.OK || !slices.Equal(labels(m), labels(l)) {
				t.Error("another lineage", f)
			}
		}()
	}
	wait.Wait()
}

// manyLines returns some lines, the same ones in each call.
func manyLines() []string {
	d := dice(146)
	return append([]string{"create a; x 0:3, y -1:*; v int", "create b; x 0:3, y -1:*; v int", "create c; x 0:3, y -1:*; v int"}, many(200, d.line)...)
}
