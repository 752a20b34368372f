package cluster_test

import (
	"fmt"
	"slices"
	"sync"
	"testing"

	"tesseract/api"
	"tesseract/cluster"
	"tesseract/query"
)

// R3

func TestNotACluster(t *testing.T) {
	copied := *stored(t, 3, 2)
	for k, c := range []*cluster.Cluster{nil, {}, new(cluster.Cluster), &copied} {
		for _, e := range []api.Errno{
			c.Put("T", api.Array{}, api.Layout{}), c.Put("u", parse(table), grid(2, 2, 0, 0)), c.Drop("t"), c.Drop("none"),
			c.Move("t", grid(1, 1, 0, 0)), c.Move("none", api.Layout{}), c.Fail(0), c.Fail(-1), c.Back(0), c.Back(99),
		} {
			if e != api.ErrNil {
				t.Error(k, e)
			}
		}
		if n, e := c.Join(); n != 0 || e != api.ErrNil {
			t.Error(k, n, e)
		}
		if copies, lost, e := c.Repair(); copies != 0 || lost != 0 || e != api.ErrNil {
			t.Error(k, copies, lost, e)
		}
		if c.Copy() != nil || len(c.Schemas()) != 0 || len(c.Workers()) != 0 {
			t.Error(k, "a copy, arrays, or workers")
		}
		if l, e := c.Chunks("t"); e != api.ErrNil || len(l) != 0 {
			t.Error(k, l, e)
		}
		if l, e := c.Holders("t", list(0, 0)); e != api.ErrNil || len(l) != 0 {
			t.Error(k, l, e)
		}
		for _, e := range []api.Expr{scan("t"), scan("none"), {}} {
			a, n, f := c.Run(e, list(0, 0))
			refused(t, k, a, n, f, api.ErrNil)
		}
	}
}

// roomy returns a copy of a list with filled elements behind its end.
func roomy[E any](l []E, fill E) []E {
	out := make([]E, len(l), len(l)+3)
	copy(out, l)
	for k := len(l); k < cap(out); k++ {
		out[:cap(out)][k] = fill
	}
	return out
}

// spoil overwrites all elements of a list, also those behind its end.
func spoil[E any](l []E, with E) {
	l = l[:cap(l)]
	for k := range l {
		l[k] = with
	}
}

// behind reports whether the elements behind the end of a list of numbers are those of roomy.
func behind(l []int) bool {
	return !slices.ContainsFunc(l[len(l):cap(l)], func(x int) bool { return x != -99 })
}

// roomyScalar, roomyExpr and roomyArray return copies that share no memory, whose slices have filled elements behind their ends.
func roomyScalar(s api.Scalar) api.Scalar {
	s.Args = roomy(s.Args, use("behind"))
	for k, x := range s.Args {
		s.Args[k] = roomyScalar(x)
	}
	return s
}

func roomyExpr(e api.Expr) api.Expr {
	e.Names, e.Lo, e.Hi = roomy(e.Names, "behind"), roomy(e.Lo, -99), roomy(e.Hi, -99)
	e.Dims, e.Aggs, e.By = roomy(e.Dims, dim("behind", 0, 0)), roomy(e.Aggs, api.Agg{Fn: 1, As: "behind"}), roomyScalar(e.By)
	e.Args = roomy(e.Args, scan("behind"))
	for k, x := range e.Args {
		e.Args[k] = roomyExpr(x)
	}
	return e
}

func roomyArray(a api.Array) api.Array {
	a = api.Array{Dims: roomy(a.Dims, dim("behind", 0, 0)), Attrs: roomy(a.Attrs, api.Attr{Name: "behind"}), Cells: roomy(a.Cells, api.Cell{})}
	for k, c := range a.Cells {
		a.Cells[k] = api.Cell{At: roomy(c.At, -99), Vals: roomy(c.Vals, txt("behind"))}
	}
	return a
}

func roomyLayout(l api.Layout) api.Layout {
	l.Sides, l.Overlap = roomy(l.Sides, -99), roomy(l.Overlap, -99)
	return l
}

// spoilScalar, spoilExpr, spoilArray, spoilDB and spoilLayout overwrite all memory.
func spoilScalar(s api.Scalar) {
	for _, x := range s.Args {
		spoilScalar(x)
	}
	spoil(s.Args, api.Scalar{Op: 99})
}

func spoilExpr(e api.Expr) {
	for _, x := range e.Args {
		spoilExpr(x)
	}
	spoil(e.Names, "spoiled")
	spoil(e.Lo, -77)
	spoil(e.Hi, -78)
	spoil(e.Dims, dim("spoiled", 0, 0))
	spoil(e.Aggs, api.Agg{})
	spoilScalar(e.By)
	spoil(e.Args, api.Expr{Op: 99})
}

func spoilArray(a api.Array) {
	for _, c := range a.Cells {
		spoil(c.At, -77)
		spoil(c.Vals, api.Val{Kind: 9})
	}
	spoil(a.Dims, dim("spoiled", 0, 0))
	spoil(a.Attrs, api.Attr{})
	spoil(a.Cells, api.Cell{})
}

func spoilDB(db api.DB) {
	for _, x := range db {
		spoilArray(x.Array)
	}
	spoil(db, api.Named{})
}

func spoilLayout(l api.Layout) {
	spoil(l.Sides, -77)
	spoil(l.Overlap, -78)
}

// slots counts where the slices of something lie in memory.
type slots map[any]int

// note counts the slice of a list, if it has one.
func note[E any](met slots, l []E) {
	if cap(l) > 0 {
		met[&l[:1][0]]++
	}
}

func (met slots) array(a api.Array) {
	note(met, a.Dims)
	note(met, a.Attrs)
	note(met, a.Cells)
	for _, c := range a.Cells {
		note(met, c.At)
		note(met, c.Vals)
	}
}

func (met slots) expr(e api.Expr) {
	note(met, e.Names)
	note(met, e.Lo)
	note(met, e.Hi)
	note(met, e.Dims)
	note(met, e.Aggs)
	note(met, e.Args)
	for _, x := range e.Args {
		met.expr(x)
	}
}

// unshared checks that no two slices begin at the same place.
func (met slots) unshared(t *testing.T, what any) {
	t.Helper()
	for _, n := range met {
		if n > 1 {
			t.Fatalf("%v: slices share memory", what)
		}
	}
}

// R5

func TestMemoryOfPlace(t *testing.T) {
	no, workers := roomy(list(1, 0), -99), roomy(list(4, 0, 2), -99)
	got := cluster.Place("t", no, workers, 3)
	again := cluster.Place("t", no, workers, 3)
	met := slots{}
	for _, l := range [][]int{no, workers, got, again} {
		note(met, l)
	}
	met.unshared(t, "Place")
	if !slices.Equal(no, list(1, 0)) || !slices.Equal(workers, list(4, 0, 2)) || !behind(no) || !behind(workers) {
		t.Error("an argument was changed")
	}
	spoil(no, 7)
	spoil(workers, 7)
	spoil(got, 7)
	if !slices.Equal(again, specPlace("t", list(1, 0), list(4, 0, 2), 3)) {
		t.Error("a result was changed", again)
	}
}

func TestMemoryOfClusters(t *testing.T) {
	c, m := opened(t, 3, 2), newModel(3, 2)
	a, l := roomyArray(parse(table)), roomyLayout(grid(2, 2, 1, 0))
	ok(t, c.Put("t", a, l))
	m.put("t", parse(table), grid(2, 2, 1, 0))
	if !sameArray(a, parse(table)) || !slices.Equal(l.Sides, list(2, 2)) || !slices.Equal(l.Overlap, list(1, 0)) || !behind(l.Sides) || !behind(a.Cells[0].At) {
		t.Error("an argument was changed")
	}
	spoilArray(a)
	spoilLayout(l)
	m.compares(t, c)
	l = roomyLayout(grid(1, 2, 0, 1))
	ok(t, c.Move("t", l))
	spoilLayout(l)
	m.move("t", grid(1, 2, 0, 1))
	m.compares(t, c)
	no := roomy(list(1, 0), -99)
	for range 2 {
		spoilDB(c.Schemas())
		spoil(c.Workers(), cluster.Worker{Chunks: 77})
		numbers, e := c.Chunks("t")
		ok(t, e)
		met := slots{}
		note(met, numbers)
		for _, no := range numbers {
			note(met, no)
		}
		met.unshared(t, "Chunks")
		for _, no := range numbers {
			spoil(no, 7)
		}
		spoil(numbers, nil)
		h, e := c.Holders("t", no)
		ok(t, e)
		spoil(h, 7)
		m.compares(t, c)
	}
	if !slices.Equal(no, list(1, 0)) || !behind(no) {
		t.Error("an argument was changed")
	}
	got, _, e := c.Run(scan("t"), list(1, 0))
	if e != api.OK || !sameArray(got, parse(table)) {
		t.Error(e, got)
	}
}

func TestMemoryOfRuns(t *testing.T) {
	for _, workers := range []int{1, 4} {
		c := stored(t, workers, 2)
		other := c.Copy()
		for _, x := range []string{"t", "sub(t; 0:3, 0:1)", "merge(t, filter(t; true))", "redim(t; x 0:3, y 0:1; v; last)"} {
			for _, side := range []int{0, 1, 2} {
				e, sides := roomyExpr(read(x)), roomy(list(side, 1), -99)
				met := slots{}
				met.expr(e)
				var runs []api.Array
				for _, c := range []*cluster.Cluster{c, c, other} {
					a, _, f := c.Run(e, sides)
					if f != api.OK || !sameArray(a, parse(table)) {
						t.Fatal(x, f)
					}
					met.array(a)
					runs = append(runs, a)
				}
				met.unshared(t, x)
				if text(e) != x || !slices.Equal(sides, list(side, 1)) || !behind(sides) || !behind(e.Lo) || !behind(e.Hi) {
					t.Error("an argument was changed")
				}
				spoilArray(runs[0])
				spoilArray(runs[1])
				spoilExpr(e)
				spoil(sides, -1)
				if !sameArray(runs[2], parse(table)) {
					t.Error("a result was changed")
				}
				for _, c := range []*cluster.Cluster{c, other} {
					if a, _, f := c.Run(read(x), list(0, 0)); f != api.OK || !sameArray(a, parse(table)) {
						t.Error(x, f, "the cluster was changed")
					}
				}
			}
		}
	}
}

// R4

func TestNilAndEmpty(t *testing.T) {
	c := opened(t, 2, 2)
	a := parse(table)
	a.Cells = []api.Cell{}
	ok(t, c.Put("t", a, grid(2, 2, 0, 0)))
	e := api.Expr{Op: api.EFilter, Names: []string{}, Lo: []int{}, Hi: []int{}, Dims: []api.Dim{}, Aggs: []api.Agg{}, By: constant(api.Val{Kind: api.KBool, N: 1}), Args: []api.Expr{{Op: api.EScan, Name: "t", Args: []api.Expr{}}}}
	e.By.Args = []api.Scalar{}
	if got, n, f := c.Run(e, list(0, 0)); f != api.OK || len(got.Cells) != 0 || n != (cluster.Stats{Boxes: 1}) {
		t.Error(f, n)
	}
	for _, sides := range [][]int{nil, {}} {
		got, n, f := c.Run(scan("t"), sides)
		refused(t, "no sides", got, n, f, api.ErrShape)
	}
	if h, e := c.Holders("t", []int{}); e != api.ErrNone || len(h) != 0 {
		t.Error(h, e)
	}
	if !slices.Equal(cluster.Place("t", []int{}, list(0, 1, 2), 2), cluster.Place("t", nil, list(0, 1, 2), 2)) {
		t.Error("no numbers are not no numbers")
	}
}

// An expression that has no end, and one whose operands share memory.
func TestSharedOperands(t *testing.T) {
	c := stored(t, 3, 2)
	endless := api.Expr{Op: api.EMerge, Args: make([]api.Expr, 2)}
	endless.Args[0], endless.Args[1] = endless, scan("t")
	a, n, f := c.Run(endless, list(0, 0))
	refused(t, "an expression without an end", a, n, f, api.ErrDeep)
	e := scan("t")
	for range 5 {
		e = api.Expr{Op: api.EMerge, Args: slices.Repeat([]api.Expr{e}, 2)} // 63 nodes
	}
	a, n, f = c.Run(e, list(1, 1))
	if f != api.OK || !sameArray(a, parse(table)) || n.Boxes != 8 || n.Chunks != 8*32 {
		t.Error(f, n)
	}
}

// R9: Several goroutines can run expressions in one cluster at the same time, as a run changes nothing.
func TestRunsTogether(t *testing.T) {
	c := stored(t, 5, 2)
	var wait sync.WaitGroup
	faults := make(chan string, 64)
	for k := range 16 {
		wait.Add(1)
		go func() {
			defer wait.Done()
			for side := range 4 {
				e := read(names("t", "window(t; 1:1, 0:0; sum(v) as v)")[k%2])
				want, _ := query.Eval(base(), e)
				if a, _, f := c.Run(e, list(side, k%3)); f != api.OK || !sameArray(a, want) {
					faults <- fmt.Sprint(k, side, f)
				}
			}
		}()
	}
	wait.Wait()
	close(faults)
	for x := range faults {
		t.Error(x)
	}
}
