package cluster_test

import (
	"math"
	"slices"
	"testing"

	"tesseract/api"
	"tesseract/chunk"
	"tesseract/cluster"
)

// P11.3

func TestPutRefuses(t *testing.T) {
	a := parse(table)
	full, none := opened(t, 3, 2), stored(t, 2, 1)
	for k := range api.MaxArrays {
		ok(t, full.Put(letters[k:k+1], a, grid(2, 2, 0, 0)))
	}
	downed(t, none, 0, 1)
	for _, x := range []struct {
		what string
		c    *cluster.Cluster
		name string
		a    api.Array
		l    api.Layout
		want api.Errno
	}{
		{"an array that is not valid, and no name", full, "T", spoiledArrays()[3], api.Layout{}, api.ErrArg},
		{"no array, and no worker", none, "T", api.Array{}, api.Layout{}, api.ErrArg},
		{"a name that is none", full, "T", a, api.Layout{}, api.ErrName},
		{"no name", none, "", a, api.Layout{}, api.ErrName},
		{"a long name", full, "abcdefghijklm", a, grid(2, 2, 0, 0), api.ErrName},
		{"a name that is there", stored(t, 3, 2), "t", a, grid(2, 2, 0, 0), api.ErrHave},
		{"a name that is there, and no room, and no layout", full, "a", a, api.Layout{}, api.ErrHave},
		{"a name that is there, and no worker", none, "t", a, api.Layout{}, api.ErrHave},
		{"no room", full, "z", a, grid(2, 2, 0, 0), api.ErrMany},
		{"no room, and no layout", full, "z", a, api.Layout{}, api.ErrMany},
		{"no layout", stored(t, 3, 2), "u", a, api.Layout{}, api.ErrShape},
		{"no layout, and no worker", none, "u", a, api.Layout{}, api.ErrShape},
		{"a layout for another array", stored(t, 3, 2), "u", a, grid(2, 0), api.ErrShape},
		{"a side of 0", none, "u", a, grid(0, 2, 0, 0), api.ErrRange},
		{"chunks that are too large", stored(t, 3, 2), "u", a, grid(64, 64, 1, 0), api.ErrMany},
		{"no order", none, "u", a, api.Layout{Sides: list(2, 2), Overlap: list(0, 0), Form: api.Dense, Codec: api.Plain}, api.ErrArg},
		{"no worker", none, "u", a, grid(2, 2, 0, 0), api.ErrDown},
		{"no worker, and no cells", none, "u", api.Array{Dims: a.Dims, Attrs: a.Attrs}, grid(2, 2, 0, 0), api.ErrDown},
	} {
		before, workers := x.c.Schemas(), x.c.Workers()
		e := x.c.Put(x.name, x.a, x.l)
		if e != x.want || !slices.Equal(x.c.Workers(), workers) || !slices.EqualFunc(before, x.c.Schemas(), func(a, b api.Named) bool { return a.Name == b.Name }) {
			t.Errorf("%s: error %d, not %d", x.what, e, x.want)
		}
	}
	for _, a := range spoiledArrays() {
		if e := stored(t, 3, 2).Put("u", a, grid(2, 2, 0, 0)); e != api.ErrArg {
			t.Error(e)
		}
	}
	ok(t, full.Drop("c"), full.Put("z", a, grid(1, 1, 0, 0)))
	if e := full.Put("c", a, grid(1, 1, 0, 0)); e != api.ErrMany {
		t.Error("there is room for 16 arrays", e)
	}
}

// The example of the chapter.
func TestPut(t *testing.T) {
	c := stored(t, 3, 2)
	if e := c.Put("t", parse(table), grid(2, 2, 0, 0)); e != api.ErrHave {
		t.Error(e)
	}
	n := 0
	for _, w := range c.Workers() {
		if !w.Up {
			t.Error(w)
		}
		n += w.Chunks
	}
	if n != 4 || len(c.Workers()) != 3 {
		t.Error(c.Workers())
	}
	l, e := c.Chunks("t")
	if e != api.OK || len(l) != 2 || !slices.Equal(l[0], list(0, 0)) || !slices.Equal(l[1], list(1, 0)) {
		t.Error(l, e)
	}
}

// Chunks that are stored while a worker is down are not on it, nor do they count it among the replicas.
func TestPutWithoutAWorker(t *testing.T) {
	for down := range 4 {
		c, m := opened(t, 4, 3), newModel(4, 3)
		downed(t, c, down)
		m.turn(down, false)
		ok(t, c.Put("l", line(100), grid(7, 3)))
		m.put("l", line(100), grid(7, 3))
		m.compares(t, c)
		ok(t, c.Back(down))
		m.turn(down, true)
		m.compares(t, c)
	}
}

func TestDrop(t *testing.T) {
	c, m := stored(t, 3, 2), newModel(3, 2)
	m.put("t", parse(table), grid(2, 2, 0, 0))
	a := parse("dim x 0:3\nattr v int\n0: 5\n3: 2\n")
	ok(t, c.Put("u", a, grid(2, 0)))
	m.put("u", a, grid(2, 0))
	for _, name := range names("v", "", "T", "abcdefghijklm") {
		if e := c.Drop(name); e != api.ErrNone {
			t.Error(name, e)
		}
	}
	m.compares(t, c)
	downed(t, c, 1)
	m.turn(1, false)
	ok(t, c.Drop("t"))
	m.drop("t")
	m.compares(t, c)
	if e := c.Drop("t"); e != api.ErrNone {
		t.Error(e)
	}
	ok(t, c.Put("t", a, grid(1, 1)), c.Drop("u"))
	m.put("t", a, grid(1, 1))
	m.drop("u")
	m.compares(t, c)
	downed(t, c, 0, 2)
	ok(t, c.Drop("t")) // also without workers
	for _, w := range c.Workers() {
		if w.Chunks != 0 {
			t.Error(w)
		}
	}
}

// P11.5

func TestRepair(t *testing.T) {
	for _, down := range []int{0, 1, 2} { // the example of the chapter
		c, m := stored(t, 3, 2), newModel(3, 2)
		m.put("t", parse(table), grid(2, 2, 0, 0))
		r := c.Workers()[down].Chunks
		downed(t, c, down)
		m.turn(down, false)
		if copies, lost, e := c.Repair(); copies != r || lost != 0 || e != api.OK {
			t.Error(copies, lost, e)
		}
		m.repair()
		m.compares(t, c)
		if copies, lost, e := c.Repair(); copies != 0 || lost != 0 || e != api.OK {
			t.Error(copies, lost, e)
		}
		m.compares(t, c)
		// The worker comes back: the chunks that belong on it are copied to it, and removed where they do not belong any more.
		ok(t, c.Back(down))
		m.turn(down, true)
		if copies, lost, e := c.Repair(); copies != r || lost != 0 || e != api.OK {
			t.Error(copies, lost, e)
		}
		m.repair()
		m.compares(t, c)
	}
}

func TestRepairOfWhatIsLost(t *testing.T) {
	c, m := opened(t, 16, 1), newModel(16, 1)
	ok(t, c.Put("l", line(60), grid(4, 4)))
	m.put("l", line(60), grid(4, 4))
	lost := c.Workers()[8].Chunks + c.Workers()[15].Chunks
	if lost < 2 || lost > 13 {
		t.Fatal("the test needs other workers", c.Workers())
	}
	downed(t, c, 8, 15)
	m.turn(8, false)
	m.turn(15, false)
	for range 2 {
		if copies, n, e := c.Repair(); copies != 0 || n != lost || e != api.OK {
			t.Error(copies, n, e)
		}
		m.compares(t, c)
	}
	ok(t, c.Back(8), c.Back(15)) // what is lost remains lost
	m.turn(8, true)
	m.turn(15, true)
	if copies, n, e := c.Repair(); copies != 0 || n != lost || e != api.OK {
		t.Error(copies, n, e)
	}
	m.compares(t, c)
	for k := range 16 {
		downed(t, c, k)
	}
	if copies, n, e := c.Repair(); copies != 0 || n != 15 || e != api.OK {
		t.Error(copies, n, e)
	}
	empty := opened(t, 2, 2)
	if copies, n, e := empty.Repair(); copies != 0 || n != 0 || e != api.OK {
		t.Error(copies, n, e)
	}
}

// P11.6

func TestMoveRefuses(t *testing.T) {
	lost, gone := stored(t, 3, 1), stored(t, 3, 1)
	h, _ := lost.Holders("t", list(1, 0))
	downed(t, lost, h...)
	downed(t, gone, 0, 1, 2)
	for _, x := range []struct {
		what string
		c    *cluster.Cluster
		name string
		l    api.Layout
		want api.Errno
	}{
		{"no array", stored(t, 3, 2), "u", grid(2, 2, 0, 0), api.ErrNone},
		{"no array, no layout, no worker", gone, "", api.Layout{}, api.ErrNone},
		{"no layout", stored(t, 3, 2), "t", api.Layout{}, api.ErrShape},
		{"no layout, no worker", gone, "t", grid(2, 65, 0, 0), api.ErrRange},
		{"no layout, and a chunk without a holder", lost, "t", grid(64, 64, 0, 1), api.ErrMany},
		{"no order", stored(t, 3, 2), "t", api.Layout{Sides: list(2, 2), Overlap: list(0, 0), Order: api.Tiled, Form: api.Dense, Codec: api.Plain}, api.ErrArg},
		{"no worker", gone, "t", grid(2, 2, 0, 0), api.ErrDown},
		{"a chunk without a holder", lost, "t", grid(2, 2, 0, 0), api.ErrLost},
	} {
		before, workers := x.c.Schemas(), x.c.Workers()
		e := x.c.Move(x.name, x.l)
		if e != x.want || !slices.Equal(x.c.Workers(), workers) || len(x.c.Schemas()) != len(before) {
			t.Errorf("%s: error %d, not %d", x.what, e, x.want)
		}
	}
	// Without cells there are no chunks, but a worker is wanted all the same.
	c := opened(t, 1, 1)
	a := parse(table)
	a.Cells = nil
	ok(t, c.Put("t", a, grid(2, 2, 0, 0)), c.Move("t", grid(1, 1, 0, 0)))
	downed(t, c, 0)
	if e := c.Move("t", grid(2, 2, 0, 0)); e != api.ErrDown {
		t.Error(e)
	}
}

// A chunk that no worker has is lost, also if all cells are in the wide box of another one.
func TestMoveOfWhatIsLost(t *testing.T) {
	met := 0
	for workers := 2; workers <= 16; workers++ {
		c := opened(t, workers, 1)
		ok(t, c.Put("t", parse(table), grid(2, 2, 2, 0)))
		one, _ := c.Holders("t", list(0, 0))
		two, _ := c.Holders("t", list(1, 0))
		if one[0] == two[0] {
			continue
		}
		met++
		for _, w := range slices.Concat(one, two) {
			c := c.Copy()
			downed(t, c, w)
			if a, _, e := c.Run(scan("t"), list(0, 0)); e != api.OK || !sameArray(a, parse(table)) {
				t.Error(e, a)
			}
			if e := c.Move("t", grid(1, 1, 0, 0)); e != api.ErrLost {
				t.Error(e)
			}
			if l, _ := c.Chunks("t"); len(l) != 2 {
				t.Error(l)
			}
		}
	}
	if met == 0 {
		t.Error("both chunks are always on the same worker")
	}
}

// The array has its layout from all chunks, some of them at workers that are not the first, and is stored where it belongs at the moment.
func TestMove(t *testing.T) {
	d := dice(113)
	for _, x := range base() {
		c, m := opened(t, 5, 2), newModel(5, 2)
		l := d.layout(x.Array.Dims)
		ok(t, c.Put(x.Name, x.Array, l))
		m.put(x.Name, x.Array, l)
		downed(t, c, 2)
		m.turn(2, false)
		for range 20 {
			l := d.layout(x.Array.Dims)
			ok(t, c.Move(x.Name, l))
			m.move(x.Name, l)
			m.compares(t, c)
			a, _, e := c.Run(scan(x.Name), make([]int, len(x.Array.Dims)))
			if e != api.OK || !sameArray(a, x.Array) {
				t.Fatal(x.Name, e, a)
			}
		}
	}
}

// P11.7

func TestChunksAndHolders(t *testing.T) {
	c := stored(t, 4, 3)
	for _, name := range names("u", "", "T") {
		if l, e := c.Chunks(name); e != api.ErrNone || len(l) != 0 {
			t.Error(name, l, e)
		}
		for _, no := range [][]int{nil, {0, 0}} {
			if h, e := c.Holders(name, no); e != api.ErrNone || len(h) != 0 {
				t.Error(name, h, e)
			}
		}
	}
	for _, no := range [][]int{nil, {}, {0}, {1}, {0, 1}, {2, 0}, {-1, 0}, {0, 0, 0}, {1, 0, 0, 0}, {1, 0, 0, 0, 0}, {0, 0, 0, 0, 9}, {math.MaxInt, math.MinInt}} {
		if h, e := c.Holders("t", no); e != api.ErrNone || len(h) != 0 {
			t.Error(no, h, e)
		}
	}
	for _, no := range [][]int{{0, 0}, {1, 0}} {
		want := specPlace("t", no, list(0, 1, 2, 3), 3)
		slices.Sort(want)
		if h, e := c.Holders("t", no); e != api.OK || !slices.Equal(h, want) {
			t.Error(no, h, e)
		}
	}
	// There are chunks only where cells are in their cores; chunks of different arrays are not the same.
	a := parse(table)
	a.Cells = a.Cells[3:]
	ok(t, c.Put("u", a, grid(1, 1, 1, 1)))
	if l, e := c.Chunks("u"); e != api.OK || len(l) != 1 || !slices.Equal(l[0], list(3, 1)) {
		t.Error(l, e)
	}
	if _, e := c.Holders("u", list(2, 1)); e != api.ErrNone {
		t.Error(e)
	}
	if _, e := c.Holders("t", list(3, 1)); e != api.ErrNone {
		t.Error(e)
	}
	a.Cells = nil
	ok(t, c.Put("b", a, grid(1, 1, 1, 1)))
	if l, e := c.Chunks("b"); e != api.OK || len(l) != 0 {
		t.Error(l, e)
	}
	db := c.Schemas()
	if len(db) != 3 || db[0].Name != "b" || db[1].Name != "t" || db[2].Name != "u" {
		t.Error(db)
	}
}

// P11.2 to P11.7, P11.11: histories of clusters.

// act does something with a cluster, and the same with the model of it.
func act(t *testing.T, d *dice, c *cluster.Cluster, m *model) {
	t.Helper()
	switch d.from(0, 9) {
	case 0, 1, 2:
		actOnArray(t, d, c, m, letters[d.from(0, 4):][:1])
	case 3:
		n, e := c.Join()
		want, f := len(m.up), api.OK
		if len(m.up) == cluster.MaxWorkers {
			want, f = 0, api.ErrMany
		} else {
			m.up = append(m.up, true)
		}
		if n != want || e != f {
			t.Fatal("Join", n, e)
		}
	case 4, 5:
		copies, lost := m.repair()
		n, gone, e := c.Repair()
		if n != copies || gone != lost || e != api.OK {
			t.Fatalf("Repair: %d copies, %d lost, %d, and not %d and %d", n, gone, e, copies, lost)
		}
	default:
		turned(t, c, m, d.from(0, len(m.up)-1), d.from(0, 2) > 0)
	}
}

// turned makes a worker up or down.
func turned(t *testing.T, c *cluster.Cluster, m *model, worker int, up bool) {
	t.Helper()
	turn := c.Fail
	if up {
		turn = c.Back
	}
	want := api.OK
	if m.up[worker] == up {
		want = api.ErrState
	} else {
		m.turn(worker, up)
	}
	if e := turn(worker); e != want {
		t.Fatal("Fail or Back", worker, up, e)
	}
}

// actOnArray puts, drops or moves an array.
func actOnArray(t *testing.T, d *dice, c *cluster.Cluster, m *model, name string) {
	t.Helper()
	if m.index(name) < 0 {
		a := d.cells(pick(d, base()...).Array, d.from(0, 14))
		l := d.layout(a.Dims)
		want := api.OK
		if len(m.upped()) == 0 {
			want = api.ErrDown
		} else {
			m.put(name, a, l)
		}
		if e := c.Put(name, a, l); e != want {
			t.Fatal("Put", name, e)
		}
		return
	}
	l := d.layout(m.db[m.index(name)].Array.Dims)
	want := api.OK
	switch {
	case d.from(0, 2) == 0 || m.isLost(name) && d.from(0, 1) == 0:
		m.drop(name)
		ok(t, c.Drop(name))
		return
	case len(m.upped()) == 0:
		want = api.ErrDown
	case m.isLost(name):
		want = api.ErrLost
	default:
		m.move(name, l)
	}
	if e := c.Move(name, l); e != want {
		t.Fatal("Move", name, e)
	}
}

func TestByModel(t *testing.T) {
	d := dice(114)
	for range 60 {
		workers, replicas := d.from(1, 16), d.from(1, 4)
		c, m := opened(t, workers, replicas), newModel(workers, replicas)
		for range 60 {
			other, before := c.Copy(), m.copied()
			act(t, &d, c, m)
			m.compares(t, c)
			before.compares(t, other)
			if d.from(0, 9) == 0 { // the copy goes on, and what it was copied from changes
				c, m, other = other, before, c
				other.Fail(d.from(0, 15))
				other.Repair()
			}
		}
	}
}

// P11.11

func TestAfterRepair(t *testing.T) {
	d := dice(115)
	copied := 0
	for range 300 {
		workers, replicas := d.from(1, 16), d.from(1, 4)
		c, m := opened(t, workers, replicas), newModel(workers, replicas)
		for range d.from(3, 25) {
			act(t, &d, c, m)
		}
		copies, lost, e := c.Repair()
		ok(t, e)
		copied += min(copies, 1)
		for _, x := range m.db {
			numbers, _ := c.Chunks(x.Name)
			for _, no := range numbers {
				want := cluster.Place(x.Name, no, m.upped(), replicas)
				slices.Sort(want)
				h, _ := c.Holders(x.Name, no)
				if len(h) == 0 {
					lost--
				} else if !slices.Equal(h, want) {
					t.Fatal(x.Name, no, h, want)
				}
			}
		}
		if lost != 0 {
			t.Fatal("other chunks are lost", lost)
		}
		workersThen := c.Workers()
		if n, _, e := c.Repair(); n != 0 || e != api.OK || !slices.Equal(workersThen, c.Workers()) {
			t.Fatal("another Repair", n, e)
		}
	}
	if copied < 50 {
		t.Error(copied)
	}
}

// P11.9: as many failures as there are replicas, less 1.
func TestHoldersRemain(t *testing.T) {
	d := dice(116)
	for range 200 {
		workers, replicas := d.from(1, 12), d.from(1, 4)
		c := opened(t, workers, replicas)
		a := d.cells(pick(&d, base()...).Array, 14)
		ok(t, c.Put("a", a, d.layout(a.Dims)))
		for range d.from(0, 2) {
			up := d.failures(t, c, replicas-1)
			if len(up) == 0 {
				break
			}
			remains(t, c, a)
			if _, lost, e := c.Repair(); lost != 0 || e != api.OK {
				t.Fatal(lost, e)
			}
			if d.from(0, 1) == 0 {
				c.Join()
				_, _, e := c.Repair()
				ok(t, e)
			}
		}
	}
}

// failures makes at most n workers fail, as long as more replicas of each chunk are there than workers fail, and returns those that are up.
func (d *dice) failures(t *testing.T, c *cluster.Cluster, n int) []int {
	t.Helper()
	var up []int
	for k, w := range c.Workers() {
		if w.Up {
			up = append(up, k)
		}
	}
	up = shuffled(d, up)
	n = min(n, len(up)-1)
	downed(t, c, up[:n]...)
	return up[n:]
}

// remains checks that each chunk has a holder, and that an array is there.
func remains(t *testing.T, c *cluster.Cluster, a api.Array) {
	t.Helper()
	numbers, e := c.Chunks("a")
	ok(t, e)
	for _, no := range numbers {
		if h, e := c.Holders("a", no); e != api.OK || len(h) == 0 {
			t.Fatal(no, h, e)
		}
	}
	got, _, e := c.Run(scan("a"), make([]int, len(a.Dims)))
	if e != api.OK || !sameArray(got, a) {
		t.Fatal(e, got)
	}
}

// The bytes that workers have are those of the chunks: what is stored is found in any form, order and codec.
func TestForms(t *testing.T) {
	for form := api.Dense; form <= api.Coords; form++ {
		for order := api.RowMajor; order <= api.Tiled; order++ {
			for codec := api.Plain; codec <= api.Lz; codec++ {
				l := api.Layout{Sides: list(2, 2), Overlap: list(1, 1), Order: order, Form: form, Codec: codec}
				if order == api.Tiled {
					l.Tile = 2
				}
				c := opened(t, 3, 2)
				ok(t, c.Put("t", parse(table), l))
				a, n, e := c.Run(scan("t"), list(1, 1))
				if e != api.OK || !sameArray(a, parse(table)) || n.Boxes != 8 {
					t.Error(l, e, a, n)
				}
				parts, _ := chunk.Split(parse(table), l)
				if numbers, _ := c.Chunks("t"); len(numbers) != len(parts) {
					t.Error(l, numbers)
				}
			}
		}
	}
}
