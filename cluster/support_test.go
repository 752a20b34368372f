package cluster_test

import (
	"fmt"
	"hash/fnv"
	"slices"
	"strings"
	"testing"

	"tesseract/api"
	"tesseract/chunk"
	"tesseract/cluster"
	"tesseract/query"
	"tesseract/space"
)

// dice makes numbers that look random, the same ones in each run.
type dice uint64

func (d *dice) next() uint64 {
	*d = *d*6364136223846793005 + 1442695040888963407
	x := uint64(*d)
	return x ^ x>>29
}

// from returns a number from lo to hi.
func (d *dice) from(lo, hi int) int { return lo + int(d.next()%uint64(hi-lo+1)) }

// pick returns one of the elements of a list.
func pick[E any](d *dice, l ...E) E { return l[d.from(0, len(l)-1)] }

// shuffled returns the elements of a list in any order.
func shuffled[E any](d *dice, l []E) []E {
	l = slices.Clone(l)
	for k := range l {
		i := d.from(0, k)
		l[k], l[i] = l[i], l[k]
	}
	return l
}

// many returns n elements.
func many[E any](n int, element func() E) []E {
	var out []E
	for range n {
		out = append(out, element())
	}
	return out
}

func num(n int64) api.Val       { return api.Val{Kind: api.KNum, N: n, D: 1} }
func none(reason int64) api.Val { return api.Val{Kind: api.KMissing, N: reason} }
func txt(s string) api.Val      { return api.Val{Kind: api.KText, S: s} }

func constant(v api.Val) api.Scalar           { return api.Scalar{Op: api.SConst, Val: v} }
func use(name string) api.Scalar              { return api.Scalar{Op: api.SAttr, Name: name} }
func along(name string) api.Scalar            { return api.Scalar{Op: api.SDim, Name: name} }
func op(n int, args ...api.Scalar) api.Scalar { return api.Scalar{Op: n, Args: args} }

func dim(name string, lo, hi int) api.Dim { return api.Dim{Name: name, Lo: lo, Hi: hi} }
func list(l ...int) []int                 { return l }
func names(l ...string) []string          { return l }
func scan(name string) api.Expr           { return api.Expr{Op: api.EScan, Name: name} }

// table is the string of the array of the document's examples.
const table = "dim x 0:3\ndim y 0:1\nattr v int\n0 0: 5\n1 0: 7\n1 1: ?1\n3 1: 2\n"

// letters are names.
const letters = "abcdefghijklmnopqrstuvwxyz"

// parse returns the array of a string.
func parse(s string) api.Array {
	a, e := space.Parse(s)
	if e != api.OK {
		panic("not the string of an array: " + s)
	}
	return a
}

// read returns the expression of a string.
func read(s string) api.Expr {
	e, f := query.Read(s)
	if f != api.OK {
		panic("not the string of an expression: " + s)
	}
	return e
}

// text returns the string of an expression.
func text(e api.Expr) string {
	s, f := query.Print(e)
	if f != api.OK {
		panic("an expression without a string")
	}
	return s
}

// must returns the array of a call that has no error.
func must(a api.Array, e api.Errno) api.Array {
	if e != api.OK {
		panic("an error")
	}
	return a
}

// base is a database with the array of the document's examples, and others, some of which are open.
func base() api.DB {
	return api.DB{
		{Name: "t", Array: parse(table)},
		{Name: "u", Array: parse("dim y -1:4\nattr w text\nattr q rat\n0: 'a', 1/2\n1: 'it''s', ?7\n4: '', 3\n")},
		{Name: "o", Array: parse("dim p -4:*\nattr n int\n-4: 1\n0: 2\n5: 3\n1073741824: 4\n")},
		{Name: "t2", Array: parse("dim x -2:1\ndim y 0:1\nattr v int\n-2 1: 4\n0 0: 6\n1 1: 8\n")},
		{Name: "g", Array: parse("dim y 0:2\ndim z -1:1\nattr k int\nattr b bool\n0 -1: 3, true\n0 0: ?2, false\n2 1: 4, ?5\n")},
		{Name: "w2", Array: parse("dim x 0:5\ndim y 0:*\nattr v int\n0 0: 1\n2 7: 3\n5 3: ?4\n")},
	}
}

// with returns a database with one more array.
func with(db api.DB, name string, a api.Array) api.DB {
	return append(slices.Clone(db), api.Named{Name: name, Array: a})
}

// line returns an array with n cells along x.
func line(n int) api.Array {
	a := api.Array{Dims: []api.Dim{dim("x", 0, 9999)}, Attrs: []api.Attr{{Name: "v", Type: api.TInt}}}
	for k := range n {
		a.Cells = append(a.Cells, api.Cell{At: list(k), Vals: []api.Val{num(int64(k % 7))}})
	}
	return a
}

// spoiledArrays are arrays that are not valid.
func spoiledArrays() []api.Array {
	out := []api.Array{{}, line(api.MaxCells + 1)}
	for _, spoil := range []func(a *api.Array){
		func(a *api.Array) { a.Cells[3].Vals[0] = txt("a") },
		func(a *api.Array) { a.Cells[0], a.Cells[1] = a.Cells[1], a.Cells[0] },
		func(a *api.Array) { a.Cells[3].At[0] = 4 },
		func(a *api.Array) { a.Dims[1].Name = "v" },
		func(a *api.Array) { a.Attrs = nil },
	} {
		a := parse(table)
		spoil(&a)
		out = append(out, a)
	}
	return out
}

// grid returns a layout with some sides and overlaps, the first ones of them first.
func grid(l ...int) api.Layout {
	return api.Layout{Sides: l[:len(l)/2], Overlap: l[len(l)/2:], Order: api.RowMajor, Form: api.Dense, Codec: api.Plain}
}

// opened returns a cluster without arrays.
func opened(t *testing.T, workers, replicas int) *cluster.Cluster {
	t.Helper()
	c, e := cluster.New(workers, replicas)
	if e != api.OK || c == nil {
		t.Fatal("no cluster", e)
	}
	return c
}

// stored returns a cluster with the array t in the layout of the chapter's example.
func stored(t *testing.T, workers, replicas int) *cluster.Cluster {
	t.Helper()
	c := opened(t, workers, replicas)
	ok(t, c.Put("t", parse(table), grid(2, 2, 0, 0)))
	return c
}

// ok checks that calls have no error.
func ok(t *testing.T, l ...api.Errno) {
	t.Helper()
	for k, e := range l {
		if e != api.OK {
			t.Fatalf("the call %d has the error %d", k, e)
		}
	}
}

// downed makes some workers fail.
func downed(t *testing.T, c *cluster.Cluster, workers ...int) {
	t.Helper()
	for _, w := range workers {
		ok(t, c.Fail(w))
	}
}

func isZero(a api.Array) bool { return len(a.Dims)+len(a.Attrs)+len(a.Cells) == 0 }

func sameSchema(a, b api.Array) bool {
	return slices.Equal(a.Dims, b.Dims) && slices.Equal(a.Attrs, b.Attrs)
}

func sameArray(a, b api.Array) bool {
	return sameSchema(a, b) && slices.EqualFunc(a.Cells, b.Cells, func(a, b api.Cell) bool { return slices.Equal(a.At, b.At) && slices.Equal(a.Vals, b.Vals) })
}

// expect compares the result of a run.
func expect(t *testing.T, what any, a api.Array, n cluster.Stats, e api.Errno, want api.Array, stats cluster.Stats) {
	t.Helper()
	if e != api.OK {
		t.Fatalf("%v: error %d", what, e)
	}
	if !sameArray(a, want) {
		s, _ := space.Print(a)
		w, _ := space.Print(want)
		t.Fatalf("%v:\n%s\nnot\n%s", what, s, w)
	}
	if n != stats {
		t.Fatalf("%v: %v, not %v", what, n, stats)
	}
}

// refused checks that the result of a run is an error, and nothing else.
func refused(t *testing.T, what any, a api.Array, n cluster.Stats, e, want api.Errno) {
	t.Helper()
	if e != want || !isZero(a) || n != (cluster.Stats{}) {
		t.Fatalf("%v: %v %v, and the error %d, not %d", what, a, n, e, want)
	}
}

// cells returns an array with at most n cells near the lower bounds of its dimensions.
func (d *dice) cells(a api.Array, n int) api.Array {
	var cells []api.Cell
	for range n {
		var c api.Cell
		for _, x := range a.Dims {
			c.At = append(c.At, d.from(x.Lo, min(x.Lo+9, x.Hi, api.MaxCoord)))
		}
		for _, x := range a.Attrs {
			c.Vals = append(c.Vals, d.fitting(x.Type))
		}
		if !slices.ContainsFunc(cells, func(x api.Cell) bool { return slices.Equal(x.At, c.At) }) {
			cells = append(cells, c)
		}
	}
	return must(space.Make(a.Dims, a.Attrs, cells))
}

// fitting returns a value that fits a type.
func (d *dice) fitting(typ int) api.Val {
	if d.next()%6 == 0 {
		return none(int64(d.from(1, 9)))
	}
	switch typ {
	case api.TBool:
		return api.Val{Kind: api.KBool, N: int64(d.from(0, 1))}
	case api.TText:
		return txt(pick(d, "", "a", "it's"))
	case api.TRat:
		return pick(d, num(int64(d.from(-3, 3))), api.Val{Kind: api.KNum, N: int64(d.from(-3, 3)*2 + 1), D: 2})
	}
	return num(int64(d.from(-3, 6)))
}

// layout returns a layout for dimensions.
func (d *dice) layout(dims []api.Dim) api.Layout {
	for {
		l := api.Layout{Order: d.from(api.RowMajor, api.Tiled), Form: d.from(api.Dense, api.Coords), Codec: d.from(api.Plain, api.Lz)}
		for range dims {
			side := pick(d, 1, 2, 3, 5, 8, 64)
			l.Sides = append(l.Sides, side)
			l.Overlap = append(l.Overlap, min(pick(d, 0, 0, 1, 2, 16), side))
		}
		if l.Order == api.Tiled {
			l.Tile = d.from(1, 3)
		}
		if space.Layout(dims, l) == api.OK {
			return l
		}
	}
}

// specScore returns the score of a worker for a chunk.
func specScore(name string, no []int, worker int) uint64 {
	h := fnv.New64a()
	fmt.Fprintf(h, "%s/%s/%d", name, strings.ReplaceAll(strings.Trim(fmt.Sprint(no), "[]"), " ", ","), worker)
	return h.Sum64() ^ h.Sum64()/(1<<32)
}

// specPlace returns the workers on which a chunk belongs: always the first one of those that are left with the greatest score.
func specPlace(name string, no []int, workers []int, replicas int) []int {
	left := slices.Clone(workers)
	var out []int
	for len(out) < replicas && len(left) > 0 {
		best := 0
		for k, w := range left {
			if specScore(name, no, w) > specScore(name, no, left[best]) {
				best = k
			}
		}
		out = append(out, left[best])
		left = slices.Delete(left, best, best+1)
	}
	return out
}

// model is what a cluster must have, by the words of the chapter.
type model struct {
	replicas int
	up       []bool
	db       api.DB // sorted by the names
	layouts  map[string]api.Layout
	holders  map[string]map[int]bool // by the name and the numbers of each chunk
}

// newModel returns the model of a new cluster.
func newModel(workers, replicas int) *model {
	m := &model{replicas: replicas, layouts: map[string]api.Layout{}, holders: map[string]map[int]bool{}}
	for range workers {
		m.up = append(m.up, true)
	}
	return m
}

// copied returns an independent model.
func (m *model) copied() *model {
	out := &model{m.replicas, slices.Clone(m.up), slices.Clone(m.db), map[string]api.Layout{}, map[string]map[int]bool{}}
	for name, l := range m.layouts {
		out.layouts[name] = l
	}
	for key, h := range m.holders {
		out.holders[key] = map[int]bool{}
		for w := range h {
			out.holders[key][w] = true
		}
	}
	return out
}

// key returns what the holders of a chunk are found by.
func key(name string, no []int) string { return fmt.Sprint(name, no) }

func (m *model) index(name string) int {
	return slices.IndexFunc(m.db, func(x api.Named) bool { return x.Name == name })
}

// chunks returns the chunks of an array.
func (m *model) chunks(name string) []chunk.Chunk {
	out, e := chunk.Split(m.db[m.index(name)].Array, m.layouts[name])
	if e != api.OK {
		panic("an array that cannot be split")
	}
	return out
}

// upped returns the workers that are up.
func (m *model) upped() []int {
	var out []int
	for k, up := range m.up {
		if up {
			out = append(out, k)
		}
	}
	return out
}

// place gives the chunks of an array replicas where they belong.
func (m *model) place(name string) {
	for _, c := range m.chunks(name) {
		h := map[int]bool{}
		for _, w := range specPlace(name, c.No, m.upped(), m.replicas) {
			h[w] = true
		}
		m.holders[key(name, c.No)] = h
	}
}

// forget removes the replicas of an array.
func (m *model) forget(name string) {
	for _, c := range m.chunks(name) {
		delete(m.holders, key(name, c.No))
	}
}

// put stores an array.
func (m *model) put(name string, a api.Array, l api.Layout) {
	m.db = with(m.db, name, a)
	slices.SortFunc(m.db, func(a, b api.Named) int { return strings.Compare(a.Name, b.Name) })
	m.layouts[name] = l
	m.place(name)
}

// drop removes an array.
func (m *model) drop(name string) {
	m.forget(name)
	k := m.index(name)
	m.db = slices.Delete(slices.Clone(m.db), k, k+1)
	delete(m.layouts, name)
}

// move stores an array in another layout.
func (m *model) move(name string, l api.Layout) {
	m.forget(name)
	m.layouts[name] = l
	m.place(name)
}

// turn makes a worker up or down.
func (m *model) turn(worker int, up bool) {
	m.up[worker] = up
	for _, h := range m.holders {
		delete(h, worker)
	}
}

// isLost reports whether a chunk of an array has no holder.
func (m *model) isLost(name string) bool {
	return slices.ContainsFunc(m.chunks(name), func(c chunk.Chunk) bool { return len(m.holders[key(name, c.No)]) == 0 })
}

// repair returns how many replicas are made, and how many chunks have no holder.
func (m *model) repair() (copies, lost int) {
	for _, x := range m.db {
		for _, c := range m.chunks(x.Name) {
			k := key(x.Name, c.No)
			if len(m.holders[k]) == 0 {
				lost++
				continue
			}
			h := map[int]bool{}
			for _, w := range specPlace(x.Name, c.No, m.upped(), m.replicas) {
				h[w] = true
				if !m.holders[k][w] {
					copies++
				}
			}
			m.holders[k] = h
		}
	}
	return copies, lost
}

// reading adds to the statistics what it takes to read a box of an array for a worker, and reports whether that is possible.
func (m *model) reading(stats *cluster.Stats, name string, b api.Box, worker int) bool {
	a := m.db[m.index(name)].Array
	whole, _ := space.Whole(a.Dims)
	part, is := space.Inter(b, whole)
	if !is {
		return true
	}
	var needed [][]int
	for _, c := range m.chunks(name) {
		lies := len(m.holders[key(name, c.No)]) > 0
		for k := range part.Lo {
			lies = lies && c.Box.Lo[k] <= part.Lo[k] && part.Hi[k] <= c.Box.Hi[k]
		}
		if lies {
			needed = [][]int{c.No}
			break
		}
		core, _ := space.Core(a.Dims, m.layouts[name], c.No)
		if _, is := space.Inter(core, part); is {
			needed = append(needed, c.No)
		}
	}
	for _, no := range needed {
		h := m.holders[key(name, no)]
		if len(h) == 0 {
			return false
		}
		stats.Chunks++
		if !h[worker] {
			stats.Sent++
		}
	}
	return true
}

// compares checks that a cluster has what it must have.
func (m *model) compares(t *testing.T, c *cluster.Cluster) {
	t.Helper()
	var want []cluster.Worker
	for k, up := range m.up {
		w := cluster.Worker{Up: up}
		for _, h := range m.holders {
			if h[k] {
				w.Chunks++
			}
		}
		want = append(want, w)
	}
	if got := c.Workers(); !slices.Equal(got, want) {
		t.Fatalf("the workers are %v, not %v", got, want)
	}
	db := c.Schemas()
	if len(db) != len(m.db) {
		t.Fatalf("%d arrays, not %d", len(db), len(m.db))
	}
	for k, x := range m.db {
		if db[k].Name != x.Name || !sameSchema(db[k].Array, x.Array) || len(db[k].Array.Cells) != 0 {
			t.Fatalf("the array %d is %v", k, db[k])
		}
		m.comparesChunks(t, c, x.Name)
	}
}

// comparesChunks checks the chunks of an array, and their holders.
func (m *model) comparesChunks(t *testing.T, c *cluster.Cluster, name string) {
	t.Helper()
	chunks := m.chunks(name)
	numbers, e := c.Chunks(name)
	if e != api.OK || len(numbers) != len(chunks) {
		t.Fatalf("%s: the chunks are %v: %d", name, numbers, e)
	}
	for k, x := range chunks {
		var want []int
		for w := range m.up {
			if m.holders[key(name, x.No)][w] {
				want = append(want, w)
			}
		}
		got, e := c.Holders(name, x.No)
		if !slices.Equal(numbers[k], x.No) || e != api.OK || !slices.Equal(got, want) {
			t.Fatalf("%s: the holders of %v are %v, not %v: %d", name, x.No, got, want, e)
		}
	}
}
