package cluster_test

import (
	"fmt"
	"math"
	"slices"
	"testing"

	"tesseract/api"
	"tesseract/cluster"
	"tesseract/engine"
	"tesseract/query"
	"tesseract/space"
)

// held returns a cluster in which exactly the chunks with some numbers of the array t have holders, and each of them one.
// The layout has the sides 2, 2 and the given overlap along x. Other workers than the holder are up, too.
func held(t *testing.T, overlap int, l ...[]int) *cluster.Cluster {
	t.Helper()
	c := opened(t, 16, 1)
	ok(t, c.Put("t", parse(table), grid(2, 2, overlap, 0)))
	numbers, _ := c.Chunks("t")
	for _, no := range numbers {
		h, _ := c.Holders("t", no)
		if !slices.ContainsFunc(l, func(x []int) bool { return slices.Equal(x, no) }) {
			downed(t, c, h...)
		}
	}
	for _, no := range l {
		if h, _ := c.Holders("t", no); len(h) != 1 {
			t.Fatal("the test needs other workers")
		}
	}
	return c
}

// holder returns the first worker that holds a chunk of the array t.
func holder(t *testing.T, c *cluster.Cluster, no ...int) int {
	t.Helper()
	h, e := c.Holders("t", no)
	if e != api.OK || len(h) == 0 {
		t.Fatal(no, h, e)
	}
	return h[0]
}

// P11.8

func TestRun(t *testing.T) {
	c := stored(t, 3, 3) // each worker has everything
	ok(t, c.Put("o", base()[2].Array, grid(4, 0)))
	db := api.DB{{Name: "t", Array: parse(table)}, base()[2]}
	for _, x := range []struct {
		e     string
		sides []int
		want  cluster.Stats
	}{
		{"t", list(2, 0), cluster.Stats{Boxes: 2, Chunks: 2}}, // the example of the chapter
		{"t", list(0, 0), cluster.Stats{Boxes: 1, Chunks: 2}},
		{"t", list(1, 1), cluster.Stats{Boxes: 8, Chunks: 8}},
		{"t", list(3, 9), cluster.Stats{Boxes: 2, Chunks: 3}},
		{"t", list(math.MaxInt, math.MaxInt), cluster.Stats{Boxes: 1, Chunks: 2}},
		{"o", list(0), cluster.Stats{Boxes: 1, Chunks: 4}},
		{"o", list(1), cluster.Stats{Boxes: 1, Chunks: 4}},
		{"sub(o; -4:5)", list(4), cluster.Stats{Boxes: 3, Chunks: 3}},
		{"sub(o; -4:251)", list(1), cluster.Stats{Boxes: 256, Chunks: 12}},
		{"sub(o; -1073741824:1073741824)", list(8388608), cluster.Stats{Boxes: 129, Chunks: 4}},
		{"concat(t, t; x)", list(4, 1), cluster.Stats{Boxes: 4, Chunks: 8}},
		{"cross(t, rename(o; n, m))", list(2, 2, 5), cluster.Stats{Boxes: 2, Chunks: 10}},
		// each scan counts
		{"merge(sub(t; 0:0, 0:1), sub(t; 3:3, 0:1))", list(0, 0), cluster.Stats{Boxes: 1, Chunks: 2}},
		{"join(t, rename(t; v, w))", list(0, 0), cluster.Stats{Boxes: 1, Chunks: 4}},
		{"join(t, rename(t; v, w))", list(2, 0), cluster.Stats{Boxes: 2, Chunks: 4}},
		// what is not needed is not read
		{"sub(t; 0:1, 0:1)", list(0, 0), cluster.Stats{Boxes: 1, Chunks: 1}},
		{"filter(t; false)", list(2, 0), cluster.Stats{Boxes: 2, Chunks: 2}},
		{"group(t; x 10:19; count() as c)", list(5), cluster.Stats{Boxes: 2}},
		{"window(t; 1:1, 0:0; sum(v) as s)", list(1, 0), cluster.Stats{Boxes: 4, Chunks: 6}},
		{"cumulate(t; x; sum(v) as s)", list(2, 1), cluster.Stats{Boxes: 4, Chunks: 6}},
		{"rank(t; v, y; r)", list(0, 1), cluster.Stats{Boxes: 2, Chunks: 4}},
	} {
		a, n, f := c.Run(read(x.e), x.sides)
		expect(t, x.e+fmt.Sprint(x.sides), a, n, f, must(query.Eval(db, read(x.e))), x.want)
	}
}

// The examples of the chapter, one behind the other.
func TestRunOfExamples(t *testing.T) {
	c := stored(t, 3, 2)
	downed(t, c, 1)
	a, n, e := c.Run(scan("t"), list(2, 0))
	expect(t, "without a worker", a, n, e, parse(table), cluster.Stats{Boxes: 2, Chunks: 2, Sent: n.Sent})
	_, _, e = c.Repair()
	ok(t, e)
	a, n, e = c.Run(scan("t"), list(2, 0))
	expect(t, "both other workers have everything", a, n, e, parse(table), cluster.Stats{Boxes: 2, Chunks: 2})
	downed(t, c, 0, 2)
	a, n, e = c.Run(scan("t"), list(2, 0))
	refused(t, "without workers", a, n, e, api.ErrDown)
	ok(t, c.Back(0))
	a, n, e = c.Run(scan("t"), list(2, 0))
	refused(t, "without replicas", a, n, e, api.ErrLost)
	if copies, lost, e := c.Repair(); copies != 0 || lost != 2 || e != api.OK {
		t.Error(copies, lost, e)
	}
}

// The box with the index i is evaluated by the worker with the index i, modulo their number, of those that are up.
func TestSent(t *testing.T) {
	a := parse("dim x 0:11\nattr v int\n0: 1\n1: 2\n2: 3\n3: 4\n4: 5\n5: 6\n6: 7\n7: 8\n8: 9\n9: 10\n10: 11\n11: 12\n")
	for workers := 1; workers <= 16; workers++ {
		for _, down := range [][]int{nil, {0}, {workers - 1}, {workers / 2}, {0, workers - 1}} {
			c := opened(t, workers, 2)
			for _, w := range down {
				c.Fail(w)
			}
			var up []int
			for k, w := range c.Workers() {
				if w.Up {
					up = append(up, k)
				}
			}
			if len(up) == 0 {
				continue
			}
			ok(t, c.Put("a", a, grid(1, 0)))
			for side := 0; side <= 12; side++ {
				want := cluster.Stats{Chunks: 12, Boxes: 1}
				if side > 0 {
					want.Boxes = (11 + side) / side
				}
				for x := range 12 {
					worker := up[0]
					if side > 0 {
						worker = up[x/side%len(up)]
					}
					if h, _ := c.Holders("a", list(x)); !slices.Contains(h, worker) {
						want.Sent++
					}
				}
				got, n, e := c.Run(scan("a"), list(side))
				expect(t, list(workers, side), got, n, e, a, want)
			}
		}
	}
}

// A chunk that is decoded several times is sent each time.
func TestSentAgain(t *testing.T) {
	c := stored(t, 1, 1)
	if n, e := c.Join(); n != 1 || e != api.OK {
		t.Fatal(n, e)
	}
	for _, x := range []struct {
		e     string
		sides []int
		want  cluster.Stats
	}{
		{"t", list(0, 0), cluster.Stats{Boxes: 1, Chunks: 2}},
		{"t", list(2, 0), cluster.Stats{Boxes: 2, Chunks: 2, Sent: 1}},
		{"t", list(1, 0), cluster.Stats{Boxes: 4, Chunks: 4, Sent: 2}},
		{"t", list(0, 1), cluster.Stats{Boxes: 2, Chunks: 4, Sent: 2}},
		{"join(t, rename(t; v, w))", list(0, 1), cluster.Stats{Boxes: 2, Chunks: 8, Sent: 4}},
		{"rank(t; v; r)", list(1, 1), cluster.Stats{Boxes: 8, Chunks: 16, Sent: 8}},
	} {
		a, n, f := c.Run(read(x.e), x.sides)
		expect(t, x.e, a, n, f, must(query.Eval(base(), read(x.e))), x.want)
	}
}

func TestRunRefuses(t *testing.T) {
	far := func(name string) api.Dim { return dim(name, -api.MaxCoord, api.MaxCoord) }
	large := api.Array{Dims: []api.Dim{far("a"), far("b"), far("c"), far("d")}, Attrs: []api.Attr{{Name: "v", Type: api.TInt}}}
	c := stored(t, 3, 1)
	ok(t, c.Put("large", large, grid(1, 1, 1, 1, 0, 0, 0, 0)), c.Put("o", base()[2].Array, grid(4, 0)))
	lost, gone := c.Copy(), c.Copy()
	downed(t, lost, holder(t, c, 1, 0))
	downed(t, gone, 0, 1, 2)
	for _, x := range []struct {
		e     api.Expr
		sides []int
		want  api.Errno
	}{
		{scan("t"), list(-1, 0), api.ErrArg}, {scan("t"), list(0, math.MinInt), api.ErrArg},
		{scan("t"), nil, api.ErrShape}, {scan("t"), list(2), api.ErrShape}, {scan("t"), list(-1), api.ErrShape}, {scan("t"), list(2, 0, 1), api.ErrShape},
		{scan("none"), list(-1), api.ErrNone}, {read("project(t; w)"), nil, api.ErrName}, {api.Expr{}, list(2, 0), api.ErrArg},
		{read("sub(t; 4:9, 0:1)"), list(0), api.ErrRange}, {read("concat(t, o; x)"), list(0, 0), api.ErrShape},
		{read("sub(o; -4:252)"), list(1), api.ErrMany}, {read("sub(o; -4:*)"), list(-1), api.ErrArg},
		{scan("large"), list(1, 1, 1, 1), api.ErrMany}, {scan("large"), list(1, 1, 1, -1), api.ErrArg}, {scan("large"), list(1<<31, 1<<28, 1<<28, 1<<28), api.ErrMany},
		{scan("large"), list(8388608, 0, 0, 0), api.ErrMany}, // 2^31 + 1 coordinates are divided into 257 parts
		{deep(api.MaxDepth + 1), list(0, 0), api.ErrDeep},
	} {
		for k, c := range []*cluster.Cluster{c, lost, gone} { // these errors come first
			a, n, f := c.Run(x.e, x.sides)
			refused(t, fmt.Sprint(k, x), a, n, f, x.want)
		}
	}
	a, n, f := c.Run(scan("large"), list(8388609, 0, 0, 0))
	expect(t, "256 boxes", a, n, f, large, cluster.Stats{Boxes: 256})
	a, n, f = c.Run(deep(api.MaxDepth), list(0, 0))
	if f != api.OK || !sameArray(a, parse(table)) || n.Chunks != 2 {
		t.Error(f, a, n)
	}
	for _, x := range []string{"t", "filter(t; false)", "group(t; x 10:19; count() as c)", "large"} { // also if nothing is read
		sides := make([]int, len(must(query.Schema(c.Schemas(), read(x))).Dims))
		a, n, f = gone.Run(read(x), sides)
		refused(t, x, a, n, f, api.ErrDown)
	}
	a, n, f = lost.Run(scan("t"), list(1, 0))
	refused(t, "the third box has an error", a, n, f, api.ErrLost)
	empty := opened(t, 2, 2)
	a, n, f = empty.Run(scan("t"), list(0, 0))
	refused(t, "no arrays", a, n, f, api.ErrNone)
}

// deep returns an expression with a depth.
func deep(depth int) api.Expr {
	e := scan("t")
	for range depth - 1 {
		e = api.Expr{Op: api.EFilter, By: constant(api.Val{Kind: api.KBool, N: 1}), Args: []api.Expr{e}}
	}
	return e
}

// Only what is read can be lost; nothing is read where a node has no box.
func TestLost(t *testing.T) {
	none, one, two := held(t, 1), held(t, 1, list(0, 0)), held(t, 1, list(1, 0))
	for _, x := range []struct {
		e     string
		sides []int
		want  [3]api.Errno // for no chunk, the first one alone, the second one alone
		n     int          // how many chunks are decoded, if there is no error
	}{
		{"t", list(0, 0), [3]api.Errno{api.ErrLost, api.ErrLost, api.ErrLost}, 0},
		{"t", list(1, 0), [3]api.Errno{api.ErrLost, api.ErrLost, api.ErrLost}, 0},
		{"sub(t; 0:2, 0:1)", list(0, 0), [3]api.Errno{api.ErrLost, api.OK, api.ErrLost}, 1},
		{"sub(t; 0:2, 0:1)", list(1, 1), [3]api.Errno{api.ErrLost, api.OK, api.ErrLost}, 6},
		{"sub(t; 1:2, 0:1)", list(0, 0), [3]api.Errno{api.ErrLost, api.OK, api.OK}, 1}, // each wide box has it
		{"sub(t; 1:2, 0:1)", list(1, 0), [3]api.Errno{api.ErrLost, api.OK, api.OK}, 2},
		{"sub(t; 1:3, 0:1)", list(0, 0), [3]api.Errno{api.ErrLost, api.ErrLost, api.OK}, 1},
		{"sub(t; 3:3, 0:1)", list(0, 0), [3]api.Errno{api.ErrLost, api.ErrLost, api.OK}, 1},
		{"group(t; x 10:19; count() as c)", list(0), [3]api.Errno{api.OK, api.OK, api.OK}, 0},
		{"merge(sub(t; 0:0, 0:1), sub(t; 3:3, 0:1))", list(1, 0), [3]api.Errno{api.ErrLost, api.ErrLost, api.ErrLost}, 0},
		{"sub(merge(sub(t; 0:0, 0:1), sub(t; 3:3, 0:1)); 0:1, 0:1)", list(0, 0), [3]api.Errno{api.ErrLost, api.OK, api.ErrLost}, 1},
		{"rank(sub(t; 1:2, 0:1); v; r)", list(1, 1), [3]api.Errno{api.ErrLost, api.OK, api.OK}, 4},
	} {
		for k, c := range []*cluster.Cluster{none, one, two} {
			a, n, f := c.Run(read(x.e), x.sides)
			if x.want[k] != api.OK {
				refused(t, fmt.Sprint(k, x.e), a, n, f, x.want[k])
				continue
			}
			want := must(query.Eval(base(), read(x.e)))
			expect(t, fmt.Sprint(k, x.e), a, n, f, want, cluster.Stats{Boxes: n.Boxes, Chunks: x.n, Sent: n.Sent})
		}
	}
}

// The numbers of chunks can be greater than any coordinate.
func TestFarChunks(t *testing.T) {
	a := parse("dim x -1073741824:*\nattr v int\n-1073741824: 1\n0: 2\n1073741820: 3\n1073741822: 4\n1073741824: 5\n")
	c := opened(t, 1, 1)
	ok(t, c.Put("a", a, grid(1, 0)))
	for _, x := range []struct {
		e     string
		sides int
		want  cluster.Stats
	}{
		{"a", 0, cluster.Stats{Boxes: 1, Chunks: 5}},
		{"sub(a; 1073741820:1073741822)", 0, cluster.Stats{Boxes: 1, Chunks: 2}},
		{"sub(a; 1073741819:1073741821)", 0, cluster.Stats{Boxes: 1, Chunks: 1}},
		{"sub(a; 1073741821:1073741823)", 3, cluster.Stats{Boxes: 1, Chunks: 1}},
		{"sub(a; 1073741820:1073741824)", 2, cluster.Stats{Boxes: 3, Chunks: 3}},
		{"sub(a; 1073741820:*)", 2, cluster.Stats{Boxes: 1, Chunks: 3}},
		{"sub(a; -1073741824:0)", 0, cluster.Stats{Boxes: 1, Chunks: 2}},
		{"sub(a; -1073741824:-1)", 0, cluster.Stats{Boxes: 1, Chunks: 1}},
	} {
		got, n, f := c.Run(read(x.e), list(x.sides))
		expect(t, x.e, got, n, f, must(query.Eval(api.DB{{Name: "a", Array: a}}, read(x.e))), x.want)
	}
	// A box without an upper bound lies in no wide box, and one that begins behind all coordinates has no chunks.
	b := parse("dim p 1073741821:*\nattr n int\n1073741821: 1\n1073741824: 2\n")
	ok(t, c.Put("b", b, grid(2, 2)))
	for _, x := range []struct {
		e    string
		want int
	}{{"b", 2}, {"sub(b; 1073741821:1073741824)", 1}, {"sub(b; 1073741824:*)", 1}, {"sub(concat(sub(b; 1073741821:1073741822), sub(b; 1073741824:1073741824); p); 1073741821:*)", 2}} {
		got, n, f := c.Run(read(x.e), list(0))
		expect(t, x.e, got, n, f, must(query.Eval(api.DB{{Name: "b", Array: b}}, read(x.e))), cluster.Stats{Boxes: 1, Chunks: x.want})
	}
	got, n, f := c.Run(read("sub(regrid(b; 2; count() as c); 1073741820:*)"), list(0))
	expect(t, "behind all coordinates", got, n, f, parse("dim p 1073741820:*\nattr c int\n"), cluster.Stats{Boxes: 1})
}

// If Eval returns ErrMany or ErrConflict, a run returns one of them, or some valid array; an error of reading comes before them.
func TestRunOfNoArray(t *testing.T) {
	c := stored(t, 3, 1)
	m := must(query.Eval(api.DB{{Name: "l", Array: line(70)}}, read("rename(rename(l; x, y); v, w)")))
	db := api.DB{{Name: "l", Array: line(70)}, {Name: "m", Array: m}, {Name: "t", Array: parse(table)}}
	ok(t, c.Put("l", line(70), grid(64, 0)), c.Put("m", m, grid(64, 0)))
	for _, x := range []struct {
		e     string
		sides []int
		want  api.Errno
	}{
		{"cross(l, m)", list(0, 0), api.ErrMany}, {"cross(l, m)", list(10000, 1000), api.ErrMany}, {"cross(l, m)", list(1000, 0), api.ErrMany}, {"sub(cross(l, m); 0:99, 0:99)", list(7, 0), api.ErrMany},
		{"redim(l; v 0:9; x; fail)", list(0), api.ErrConflict}, {"redim(l; v 0:9; x; fail)", list(1), api.ErrConflict},
		{"group(redim(l; v 0:9; x; fail); v 20:29; count() as c)", list(1), api.ErrConflict},
		{"group(cross(l, m); x 0:0; count() as c)", list(0), api.ErrMany},
		{"redim(t; y 0:1; v; fail)", list(1), api.ErrConflict},
	} {
		if _, f := query.Eval(db, read(x.e)); f != x.want {
			t.Fatal(x.e, f)
		}
		a, n, f := c.Run(read(x.e), x.sides)
		switch f {
		case api.OK:
			if !sameSchema(a, must(query.Schema(db, read(x.e)))) || space.Check(a) != api.OK {
				t.Error(x.e, a)
			}
		case api.ErrMany, api.ErrConflict:
			refused(t, x.e, a, n, f, f)
		default:
			t.Error(x.e, f)
		}
	}
}

// Errors of reading come before those of cells: within a box, whichever operand has them, and also those of a later box.
func TestLostBeforeConflict(t *testing.T) {
	b := must(query.Eval(api.DB{{Name: "l", Array: line(40)}}, read("sub(rename(rename(l; x, z); v, w); 0:39)")))
	tried := [2]int{}
	for workers := 2; workers <= 8; workers++ {
		c := opened(t, workers, 1)
		ok(t, c.Put("a", parse("dim x 0:3\nattr v int\n0: 1\n1: 1\n2: 2\n3: 3\n"), grid(4, 0)), c.Put("b", b, grid(1, 0)))
		home, _ := c.Holders("a", list(0))
		for z := range 39 {
			first, _ := c.Holders("b", list(z))
			second, _ := c.Holders("b", list(z+1))
			lost, late := first[0], 0
			if first[0] == home[0] {
				lost, late = second[0], 1 // the first box can be read
			}
			if lost != home[0] {
				tried[late]++
				losesBeforeConflict(t, c, lost, fmt.Sprintf("sub(b; %d:%d)", z, z+1))
			}
		}
	}
	if tried[0] < 10 || tried[1] < 10 {
		t.Error(tried)
	}
}

// losesBeforeConflict checks that a conflict is found with all workers, but a part of the array b is lost without one of them.
func losesBeforeConflict(t *testing.T, c *cluster.Cluster, lost int, part string) {
	t.Helper()
	d := c.Copy()
	downed(t, d, lost)
	conflict := "redim(a; v 0:9; x; fail)"
	for k, x := range []string{"cross(" + conflict + ", " + part + ")", "cross(" + part + ", " + conflict + ")", "filter(cross(" + conflict + ", " + part + "); true)"} {
		for _, side := range []int{0, 1} {
			sides := list(0, side)
			if k == 1 {
				sides = list(side, 0)
			}
			a, n, f := c.Run(read(x), sides)
			refused(t, x, a, n, f, api.ErrConflict) // the chapter would allow ErrMany and some array, too
			a, n, f = d.Run(read(x), sides)
			refused(t, x, a, n, f, api.ErrLost)
		}
	}
}

// P11.9: runs by the words of the chapter.

// specBoxes returns the boxes of a run, none if there are too many.
func specBoxes(dims []api.Dim, sides []int) []api.Box {
	out := []api.Box{{}}
	for k, d := range dims {
		side := min(sides[k], 1<<40)
		parts := [][2]int{{d.Lo, d.Hi}}
		if d.Hi != api.Open && side > 0 {
			if (d.Hi-d.Lo)/side > 256 {
				return nil
			}
			parts = nil
			for lo := d.Lo; lo <= d.Hi; lo += side {
				parts = append(parts, [2]int{lo, min(lo+side-1, d.Hi)})
			}
		}
		var next []api.Box
		for _, b := range out {
			for _, p := range parts {
				next = append(next, api.Box{Lo: append(slices.Clone(b.Lo), p[0]), Hi: append(slices.Clone(b.Hi), p[1])})
			}
		}
		if len(next) > 256 {
			return nil
		}
		out = next
	}
	return out
}

// running returns what a run must count for an expression whose scans have different names, and whether nothing that it reads is lost.
func (m *model) running(e api.Expr, l []api.Box) (cluster.Stats, bool) {
	stats := cluster.Stats{Boxes: len(l)}
	for k, b := range l {
		needs, f := engine.Needs(m.db, e, b)
		if f != api.OK {
			panic("needs with an error")
		}
		for _, n := range needs {
			if !m.reading(&stats, n.Name, n.Box, m.upped()[k%len(m.upped())]) {
				return cluster.Stats{}, false
			}
		}
	}
	return stats, true
}

// life lets workers fail, come back, join and be repaired, but never all of them be down.
func life(t *testing.T, d *dice, c *cluster.Cluster, m *model) {
	t.Helper()
	for range d.from(0, 5) {
		k := d.from(0, len(m.up)-1)
		switch {
		case m.up[k] && len(m.upped()) > 1 && d.from(0, 2) > 0:
			turned(t, c, m, k, false)
		case !m.up[k] && d.from(0, 1) == 0:
			turned(t, c, m, k, true)
		case len(m.up) < cluster.MaxWorkers && d.from(0, 3) == 0:
			_, e := c.Join()
			ok(t, e)
			m.up = append(m.up, true)
		case d.from(0, 2) == 0:
			m.repair()
			_, _, e := c.Repair()
			ok(t, e)
		}
	}
}

func TestRunByModel(t *testing.T) {
	d := dice(117)
	met := map[int]int{}
	several, sent, lost := 0, 0, 0
	for range 1500 {
		e, db := d.separate(base(), d.denoting(base(), d.from(1, 5)))
		want, f := query.Eval(db, e)
		if f != api.OK {
			continue
		}
		workers, replicas := d.from(1, 8), d.from(1, 4)
		c, m := opened(t, workers, replicas), newModel(workers, replicas)
		for _, x := range db {
			l := d.layout(x.Array.Dims)
			ok(t, c.Put(x.Name, x.Array, l))
			m.put(x.Name, x.Array, l)
		}
		for range 3 {
			sides := many(len(want.Dims), func() int { return pick(&d, 0, 1, 2, 3, 7, 1<<20, math.MaxInt) })
			a, n, f := c.Run(e, sides)
			boxes := specBoxes(want.Dims, sides)
			if boxes == nil {
				refused(t, text(e), a, n, f, api.ErrMany)
				continue
			}
			stats, is := m.running(e, boxes)
			if is {
				expect(t, fmt.Sprint(text(e), sides), a, n, f, want, stats)
				sent += min(stats.Sent, 1)
			} else {
				refused(t, text(e), a, n, f, api.ErrLost)
				lost++
			}
			met[e.Op] += min(len(want.Cells), 1)
			several += min(len(boxes), 2) - 1
			life(t, &d, c, m)
			m.compares(t, c)
		}
	}
	for n := api.EScan; n <= api.ERank; n++ {
		if met[n] < 15 {
			t.Errorf("the operation %d was met only %d times", n, met[n])
		}
	}
	if several < 300 || sent < 300 || lost < 100 {
		t.Error(several, sent, lost)
	}
}

// P11.9: a run is that of a store with the same arrays and layouts, and that of the plan.
func TestRunAsStore(t *testing.T) {
	d := dice(118)
	runs := 0
	for range 600 {
		db := base()
		e := d.denoting(db, d.from(1, 5))
		want, f := query.Eval(db, e)
		if f != api.OK {
			continue
		}
		workers := d.from(1, 10)
		c, m, s := opened(t, workers, 4), newModel(workers, 4), engine.New()
		for _, x := range db {
			l := d.layout(x.Array.Dims)
			ok(t, c.Put(x.Name, x.Array, l), s.Put(x.Name, x.Array, l))
			m.put(x.Name, x.Array, l)
		}
		plan, _, f := engine.Plan(db, e)
		ok(t, f)
		for range 3 {
			sides := many(len(want.Dims), func() int { return pick(&d, 0, 1, 2, 5, 1<<20) })
			for _, e := range []api.Expr{e, plan} {
				a, n, f := s.Run(e, sides)
				got, stats, g := c.Run(e, sides)
				if f != api.OK {
					refused(t, text(e), got, stats, g, f)
					continue
				}
				expect(t, text(e), got, stats, g, a, cluster.Stats{Boxes: n.Boxes, Chunks: n.Chunks, Sent: stats.Sent})
				if !sameArray(got, want) || stats.Sent < 0 || stats.Sent > stats.Chunks || len(m.upped()) <= 4 && stats.Sent != 0 {
					t.Fatal(text(e), stats)
				}
				runs++
			}
			// at most three of four holders fail, and are repaired
			for _, w := range shuffled(&d, m.upped())[:min(3, len(m.upped())-1)] {
				turned(t, c, m, w, false)
			}
			if a, _, f := c.Run(e, make([]int, len(want.Dims))); f != api.OK || !sameArray(a, want) {
				t.Fatal(text(e), f)
			}
			if len(m.up) < cluster.MaxWorkers {
				c.Join()
				m.up = append(m.up, true)
			}
			_, lost, f := c.Repair()
			if m.repair(); lost != 0 || f != api.OK {
				t.Fatal(lost, f)
			}
		}
	}
	if runs < 1000 {
		t.Error(runs)
	}
}

// R9: Runs do not depend on which worker is the first to be ready, and change nothing.
func TestRunAgain(t *testing.T) {
	d := dice(119)
	a := d.cells(api.Array{Dims: []api.Dim{dim("x", 0, 9), dim("y", 0, 9)}, Attrs: []api.Attr{{Name: "v", Type: api.TInt}}}, 60)
	c, m := opened(t, 16, 2), newModel(16, 2)
	ok(t, c.Put("a", a, grid(1, 2, 1, 0)))
	m.put("a", a, grid(1, 2, 1, 0))
	for _, x := range []string{"a", "window(a; 1:1, 2:0; avg(v) as m)", "rank(a; v, x; r)", "merge(transpose(transpose(a; y, x); x, y), sub(a; 2:7, 1:5))"} {
		first, stats, f := c.Run(read(x), list(1, 1))
		ok(t, f)
		for range 40 {
			got, n, f := c.Run(read(x), list(1, 1))
			expect(t, x, got, n, f, first, stats)
			got, n, f = c.Copy().Run(read(x), list(1, 1))
			expect(t, x, got, n, f, first, stats)
		}
		m.compares(t, c)
	}
}
