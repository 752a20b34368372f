package cluster_test

import (
	"math"
	"slices"
	"testing"

	"tesseract/api"
	"tesseract/cluster"
)

// P11.2

func TestNew(t *testing.T) {
	for _, x := range [][2]int{{0, 1}, {3, 5}, {3, 0}, {17, 1}, {-1, 1}, {0, 0}, {17, 5}, {1, -1}, {math.MinInt, 2}, {2, math.MinInt}, {math.MaxInt, 2}, {2, math.MaxInt}} {
		if c, e := cluster.New(x[0], x[1]); c != nil || e != api.ErrArg {
			t.Errorf("%v: error %d", x, e)
		}
	}
	for workers := 1; workers <= cluster.MaxWorkers; workers++ {
		for replicas := 1; replicas <= cluster.MaxReplicas; replicas++ {
			c := opened(t, workers, replicas)
			newModel(workers, replicas).compares(t, c)
			m := newModel(workers, replicas)
			ok(t, c.Put("t", parse(table), grid(1, 1, 0, 0)))
			m.put("t", parse(table), grid(1, 1, 0, 0))
			m.compares(t, c)
		}
	}
	c := stored(t, 3, 2)
	if len(opened(t, 3, 2).Schemas()) != 0 || len(c.Schemas()) != 1 {
		t.Error("clusters share arrays")
	}
}

func TestJoin(t *testing.T) {
	c := opened(t, 1, 1)
	m := newModel(1, 1)
	for k := 1; k < cluster.MaxWorkers; k++ {
		if k%3 == 0 {
			downed(t, c, k-1)
			m.turn(k-1, false)
		}
		n, e := c.Join()
		if n != k || e != api.OK {
			t.Fatal(k, n, e)
		}
		m.up = append(m.up, true)
		m.compares(t, c)
	}
	for range 2 { // workers that are down are included
		if n, e := c.Join(); n != 0 || e != api.ErrMany {
			t.Error(n, e)
		}
		m.compares(t, c)
	}
	for k := range cluster.MaxWorkers {
		c.Fail(k)
	}
	if n, e := c.Join(); n != 0 || e != api.ErrMany {
		t.Error(n, e)
	}
}

// A worker that is new is used by what is stored then, and not before.
func TestJoinedWorker(t *testing.T) {
	c, m := stored(t, 1, 4), newModel(1, 4)
	m.put("t", parse(table), grid(2, 2, 0, 0))
	n, e := c.Join()
	if n != 1 || e != api.OK {
		t.Fatal(n, e)
	}
	m.up = append(m.up, true)
	m.compares(t, c)
	ok(t, c.Put("u", parse(table), grid(2, 2, 0, 0)))
	m.put("u", parse(table), grid(2, 2, 0, 0))
	m.compares(t, c)
	if w := c.Workers(); w[0].Chunks != 4 || w[1].Chunks != 2 {
		t.Error(w)
	}
}

func TestCopy(t *testing.T) {
	c, m := stored(t, 3, 2), newModel(3, 2)
	m.put("t", parse(table), grid(2, 2, 0, 0))
	downed(t, c, 0)
	m.turn(0, false)
	copies := []*cluster.Cluster{c.Copy(), c.Copy(), c.Copy(), c.Copy(), c.Copy(), c.Copy(), c.Copy()}
	for k, change := range []func(c *cluster.Cluster) api.Errno{
		func(c *cluster.Cluster) api.Errno { return c.Fail(1) },
		func(c *cluster.Cluster) api.Errno { return c.Back(0) },
		func(c *cluster.Cluster) api.Errno { _, e := c.Join(); return e },
		func(c *cluster.Cluster) api.Errno { return c.Put("u", parse(table), grid(1, 1, 0, 0)) },
		func(c *cluster.Cluster) api.Errno { return c.Drop("t") },
		func(c *cluster.Cluster) api.Errno { return c.Move("t", grid(1, 1, 0, 0)) },
		func(c *cluster.Cluster) api.Errno { _, _, e := c.Repair(); return e },
	} {
		m.compares(t, copies[k])
		ok(t, change(copies[k]))
		m.compares(t, c)
		for _, other := range copies[k+1:] {
			m.compares(t, other)
		}
	}
	// A copy goes on when what it was copied from changes, and belongs to its own workers.
	other := c.Copy().Copy()
	downed(t, c, 1, 2)
	ok(t, c.Drop("t"))
	m.compares(t, other)
	a, n, e := other.Run(scan("t"), list(2, 0))
	stats := cluster.Stats{Boxes: 2, Chunks: 2}
	for k, no := range [][]int{{0, 0}, {1, 0}} {
		if h, _ := other.Holders("t", no); !slices.Contains(h, 1+k) {
			stats.Sent++
		}
	}
	expect(t, "a copy", a, n, e, parse(table), stats)
	_, _, e = other.Repair()
	ok(t, e)
	m.repair()
	m.compares(t, other)
	ok(t, other.Put("u", parse(table), grid(1, 1, 0, 0)))
	m.put("u", parse(table), grid(1, 1, 0, 0)) // as many replicas as before
	m.compares(t, other)
}

// P11.4, P11.7

func TestFailAndBack(t *testing.T) {
	c, m := stored(t, 3, 2), newModel(3, 2)
	m.put("t", parse(table), grid(2, 2, 0, 0))
	for _, x := range []struct {
		worker int
		up     bool
		want   api.Errno
	}{
		{1, false, api.OK}, {1, false, api.ErrState}, {3, false, api.ErrRange}, {0, true, api.ErrState}, // the examples of the chapter
		{3, true, api.ErrRange}, {-1, true, api.ErrRange}, {-1, false, api.ErrRange}, {math.MaxInt, false, api.ErrRange}, {math.MinInt, true, api.ErrRange},
		{2, true, api.ErrState}, {1, true, api.OK}, {1, true, api.ErrState}, {1, false, api.OK}, {2, false, api.OK}, {0, false, api.OK}, {0, false, api.ErrState},
		{0, true, api.OK}, {2, true, api.OK}, {2, false, api.OK}, {1, true, api.OK},
	} {
		got := c.Fail
		if x.up {
			got = c.Back
		}
		if e := got(x.worker); e != x.want {
			t.Errorf("%v: error %d", x, e)
		}
		if x.want == api.OK {
			m.turn(x.worker, x.up)
		}
		m.compares(t, c)
	}
}

// The array that is gone with all workers remains in the catalog.
func TestCatalogRemains(t *testing.T) {
	c := stored(t, 2, 2)
	downed(t, c, 0, 1)
	if db := c.Schemas(); len(db) != 1 || db[0].Name != "t" || !sameSchema(db[0].Array, parse(table)) || len(db[0].Array.Cells) != 0 {
		t.Error(db)
	}
	if l, e := c.Chunks("t"); e != api.OK || len(l) != 2 {
		t.Error(l, e)
	}
	if h, e := c.Holders("t", list(1, 0)); e != api.OK || len(h) != 0 {
		t.Error(h, e)
	}
	if e := c.Put("t", parse(table), grid(2, 2, 0, 0)); e != api.ErrHave {
		t.Error(e)
	}
	if e := c.Drop("t"); e != api.OK || len(c.Schemas()) != 0 {
		t.Error(e)
	}
}
