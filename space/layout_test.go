package space_test

import (
	"slices"
	"testing"

	"tesseract/api"
	"tesseract/space"
)

// gridded are dimensions with a layout.
type gridded struct {
	d []api.Dim
	l api.Layout
}

// grids returns dimensions of few coordinates with layouts of all sorts.
func grids() []gridded {
	var out []gridded
	for side := 1; side <= 7; side++ {
		for over := 0; over <= side; over++ {
			for hi := range 9 {
				out = append(out, gridded{dims(dim("x", -3, hi-3)), grid(list(side), list(over), api.RowMajor)})
			}
		}
	}
	return append(out,
		gridded{dims(dim("x", -2, 5), dim("y", 4, 10)), grid(list(4, 3), list(1, 3), api.Hilbert)},
		gridded{dims(dim("x", -2, 5), dim("y", 4, 10)), grid(list(1, 64), list(1, 0), api.Hilbert)},
		gridded{dims(dim("x", 0, 2), dim("y", 0, 3), dim("z", -1, 3), dim("w", most-2, most)), grid(list(2, 1, 3, 2), list(1, 1, 0, 2), api.RowMajor)},
		gridded{dims(dim("x", most-20, api.Open), dim("y", 0, 1)), grid(list(7, 1), list(5, 0), api.RowMajor)},
		gridded{dims(dim("x", -most, 9-most), dim("y", most, api.Open)), grid(list(3, 5), list(2, 5), api.RowMajor)},
	)
}

// bounded returns the box of all coordinates of the dimensions, with bounds.
func bounded(d []api.Dim) api.Box {
	b, _ := space.Whole(d)
	for k := range b.Hi {
		b.Hi[k] = min(b.Hi[k], most)
	}
	return b
}

// chunks returns the numbers of all chunks, found by trying.
func chunks(g gridded) [][]int {
	b := bounded(g.d)
	none := box(make([]int, len(g.d)), nil)
	for k := range g.d {
		b.Hi[k] -= b.Lo[k]
		b.Lo[k] = 0
	}
	none.Hi = b.Hi // there are no more chunks than coordinates
	return slices.DeleteFunc(within(none), func(c []int) bool {
		_, e := space.Core(g.d, g.l, c)
		return e == api.ErrRange
	})
}

// P2.7

func TestLayout(t *testing.T) {
	one, two := dims(dim("x", 0, 9)), dims(dim("x", 0, 9), dim("y", 0, api.Open))
	four := append(slices.Clone(two), dim("z", 0, 1), dim("w", 0, 1))
	good := api.Layout{Sides: list(4), Overlap: list(2), Order: api.Tiled, Tile: 3, Form: api.Runs, Codec: api.Lz}
	with := func(change func(l *api.Layout)) api.Layout {
		l := good
		change(&l)
		return l
	}
	for k, x := range []struct {
		d    []api.Dim
		l    api.Layout
		want api.Errno
	}{
		{one, good, api.OK}, {two, good, api.ErrShape}, {one, api.Layout{}, api.ErrShape},
		{one, with(func(l *api.Layout) { l.Sides = list(4, 4) }), api.ErrShape}, {one, with(func(l *api.Layout) { l.Overlap = nil }), api.ErrShape},
		{one, with(func(l *api.Layout) { l.Overlap, l.Sides = list(1, 1), list(0) }), api.ErrShape},
		{one, with(func(l *api.Layout) { l.Sides, l.Order = list(0), 0 }), api.ErrRange}, {one, with(func(l *api.Layout) { l.Sides = list(65) }), api.ErrRange},
		{one, with(func(l *api.Layout) { l.Sides, l.Overlap = list(-1), list(-1) }), api.ErrRange}, {one, with(func(l *api.Layout) { l.Sides = list(farNumbers[5]) }), api.ErrRange},
		{one, with(func(l *api.Layout) { l.Sides = list(64) }), api.OK}, {one, with(func(l *api.Layout) { l.Sides, l.Overlap = list(1), list(1) }), api.OK},
		{one, with(func(l *api.Layout) { l.Overlap = list(4) }), api.OK}, {one, with(func(l *api.Layout) { l.Overlap = list(5) }), api.ErrRange}, {one, with(func(l *api.Layout) { l.Overlap = list(-1) }), api.ErrRange},
		{one, with(func(l *api.Layout) { l.Sides, l.Overlap = list(64), list(16) }), api.OK}, {one, with(func(l *api.Layout) { l.Sides, l.Overlap = list(64), list(17) }), api.ErrRange},
		{one, with(func(l *api.Layout) { l.Overlap = list(farNumbers[0]) }), api.ErrRange}, {one, with(func(l *api.Layout) { l.Overlap = list(farNumbers[5]) }), api.ErrRange},
		{two, grid(list(64, 64), list(0, 0), 1), api.OK}, {two, grid(list(64, 64), list(1, 0), 1), api.ErrMany}, {two, grid(list(64, 62), list(0, 1), 1), api.OK}, {two, grid(list(62, 32), list(1, 16), 1), api.OK},
		{two, grid(list(64, 65), list(1, 0), 1), api.ErrRange}, {two, grid(list(64, 64), list(1, 0), 9), api.ErrMany}, {two, grid(list(63, 64), list(0, 1), 9), api.ErrMany}, {two, grid(list(63, 63), list(0, 1), 9), api.ErrArg}, {two, grid(list(63, 63), list(0, 1), 1), api.OK},
		{four, grid(list(8, 8, 8, 8), list(0, 0, 0, 0), 1), api.OK}, {four, grid(list(8, 8, 8, 9), list(0, 0, 0, 0), 1), api.ErrMany}, {four, grid(list(4, 4, 4, 4), list(2, 2, 2, 2), 1), api.OK},
		{four, grid(list(64, 64, 64, 64), list(16, 16, 16, 16), 1), api.ErrMany}, {four, grid(list(64, 64, 64, 0), list(16, 16, 16, 0), 1), api.ErrRange},
		{one, with(func(l *api.Layout) { l.Order = 0 }), api.ErrArg}, {one, with(func(l *api.Layout) { l.Order = 4 }), api.ErrArg}, {one, with(func(l *api.Layout) { l.Order, l.Tile = farNumbers[0], 0 }), api.ErrArg},
		{one, with(func(l *api.Layout) { l.Order = api.RowMajor }), api.ErrArg}, {one, with(func(l *api.Layout) { l.Order = api.Hilbert }), api.ErrArg},
		{one, with(func(l *api.Layout) { l.Order, l.Tile = api.RowMajor, 0 }), api.OK}, {one, with(func(l *api.Layout) { l.Order, l.Tile = api.Hilbert, 0 }), api.OK}, {one, with(func(l *api.Layout) { l.Order, l.Tile = api.Hilbert, -1 }), api.ErrArg},
		{one, with(func(l *api.Layout) { l.Tile = 0 }), api.ErrArg}, {one, with(func(l *api.Layout) { l.Tile = -1 }), api.ErrArg}, {one, with(func(l *api.Layout) { l.Tile = 65 }), api.ErrArg}, {one, with(func(l *api.Layout) { l.Tile = 64 }), api.OK}, {one, with(func(l *api.Layout) { l.Tile = 1 }), api.OK},
		{one, with(func(l *api.Layout) { l.Form = 0 }), api.ErrArg}, {one, with(func(l *api.Layout) { l.Form = 4 }), api.ErrArg}, {one, with(func(l *api.Layout) { l.Form = 1 }), api.OK}, {one, with(func(l *api.Layout) { l.Form = 3 }), api.OK},
		{one, with(func(l *api.Layout) { l.Codec = 0 }), api.ErrArg}, {one, with(func(l *api.Layout) { l.Codec = 4 }), api.ErrArg}, {one, with(func(l *api.Layout) { l.Codec = 1 }), api.OK}, {one, with(func(l *api.Layout) { l.Codec = farNumbers[5] }), api.ErrArg},
	} {
		if e := space.Layout(x.d, x.l); e != x.want {
			t.Error(k, e, x.want)
		}
		if x.want == api.OK {
			continue
		}
		for _, at := range [][]int{nil, list(0), list(-1, 0)} {
			c, e1 := space.Chunk(x.d, x.l, at)
			h, e2 := space.Homes(x.d, x.l, at)
			b, e3 := space.Core(x.d, x.l, at)
			w, e4 := space.Wide(x.d, x.l, at)
			if e1 != x.want || e2 != x.want || e3 != x.want || e4 != x.want || len(c)+len(h) != 0 || !isNoBox(b) || !isNoBox(w) {
				t.Error(k, at, c, e1, h, e2, b, e3, w, e4)
			}
		}
	}
}

func TestGridRefuses(t *testing.T) {
	d := dims(dim("x", -2, 5), dim("y", 0, api.Open))
	l := grid(list(4, 3), list(1, 0), api.RowMajor)
	top := most / 3
	for k, x := range []struct {
		at, c []int
		want  api.Errno
	}{
		{nil, nil, api.ErrShape}, {list(0), list(0), api.ErrShape}, {list(9, 9, 9), list(-1, -1, -1), api.ErrShape},
		{list(-3, 0), list(-1, 0), api.ErrRange}, {list(6, 0), list(2, 0), api.ErrRange}, {list(0, -1), list(0, -1), api.ErrRange}, {list(0, api.Open), list(0, top+1), api.ErrRange},
		{list(farNumbers[0], 0), list(farNumbers[0], 0), api.ErrRange}, {list(farNumbers[5], 0), list(farNumbers[5], 0), api.ErrRange}, {list(0, farNumbers[5]), list(0, 1<<62), api.ErrRange},
		{list(-2, 0), list(0, 0), api.OK}, {list(5, most), list(1, top), api.OK},
	} {
		c, e1 := space.Chunk(d, l, x.at)
		h, e2 := space.Homes(d, l, x.at)
		b, e3 := space.Core(d, l, x.c)
		w, e4 := space.Wide(d, l, x.c)
		if e1 != x.want || e2 != x.want || e3 != x.want || e4 != x.want {
			t.Error(k, e1, e2, e3, e4)
		}
		if x.want != api.OK && (len(c)+len(h) != 0 || !isNoBox(b) || !isNoBox(w)) {
			t.Error(k, c, h, b, w)
		}
	}
}

func TestChunkExamples(t *testing.T) {
	d := dims(dim("x", -2, 5), dim("y", 0, api.Open))
	l := grid(list(4, 3), list(1, 0), api.RowMajor)
	for k, x := range []struct{ at, c []int }{{list(1, 7), list(0, 2)}, {list(2, 0), list(1, 0)}, {list(5, most), list(1, most/3)}} {
		if c, e := space.Chunk(d, l, x.at); e != api.OK || !slices.Equal(c, x.c) {
			t.Error(k, c, e)
		}
	}
	for k, x := range []struct {
		c          []int
		core, wide api.Box
	}{
		{list(0, 2), box(list(-2, 6), list(1, 8)), box(list(-2, 6), list(2, 8))},
		{list(1, 0), box(list(2, 0), list(5, 2)), box(list(1, 0), list(5, 2))},
		{list(1, most/3), box(list(2, most/3*3), list(5, most)), box(list(1, most/3*3), list(5, most))},
	} {
		core, e := space.Core(d, l, x.c)
		wide, f := space.Wide(d, l, x.c)
		if e != api.OK || f != api.OK || !sameBox(core, x.core) || !sameBox(wide, x.wide) {
			t.Error(k, core, e, wide, f)
		}
	}
	for k, x := range []struct {
		at   []int
		want [][]int
	}{{list(1, 7), [][]int{{0, 2}, {1, 2}}}, {list(-2, 7), [][]int{{0, 2}}}, {list(2, 0), [][]int{{0, 0}, {1, 0}}}, {list(3, most), [][]int{{1, most / 3}}}} {
		if h, e := space.Homes(d, l, x.at); e != api.OK || !sameLists(h, x.want) {
			t.Error(k, h, e)
		}
	}
}

func TestGridMemory(t *testing.T) {
	d := dims(dim("x", -2, 5), dim("y", 0, 9))
	l := grid(spread(list(4, 3)), spread(list(1, 3)), api.RowMajor)
	at := spread(list(2, 5))
	c, _ := space.Chunk(d, l, at)
	spoilInts(c)
	b, _ := space.Core(d, l, list(0, 0))
	spoilInts(b.Lo)
	spoilInts(b.Hi)
	w, _ := space.Wide(d, l, list(0, 0))
	spoilInts(w.Lo)
	spoilInts(w.Hi)
	h, _ := space.Homes(d, l, at)
	spoilInts(h[0])
	if again, _ := space.Homes(d, l, at); !sameLists(again[1:], h[1:]) || len(h) != 6 {
		t.Error("the lists of Homes share memory", h, again)
	}
	if !slices.Equal(l.Sides, list(4, 3)) || !slices.Equal(l.Overlap, list(1, 3)) || !slices.Equal(at, list(2, 5)) {
		t.Error("an argument was changed")
	}
}

// P2.10

func TestCores(t *testing.T) {
	for k, g := range grids() {
		l := chunks(g)
		met := 0
		for _, c := range l {
			core, _ := space.Core(g.d, g.l, c)
			for _, at := range within(core) {
				met++
				if no, e := space.Chunk(g.d, g.l, at); e != api.OK || !slices.Equal(no, c) {
					t.Fatal(k, at, no, e, c)
				}
			}
		}
		if met != len(within(bounded(g.d))) {
			t.Error(k, "the cores have", met, "coordinates")
		}
	}
}

func TestWideBoxes(t *testing.T) {
	for k, g := range grids() {
		l := chunks(g)
		for _, c := range l {
			core, _ := space.Core(g.d, g.l, c)
			wide, e := space.Wide(g.d, g.l, c)
			whole := bounded(g.d)
			for i, o := range g.l.Overlap {
				whole.Lo[i], whole.Hi[i] = max(whole.Lo[i], core.Lo[i]-o), min(whole.Hi[i], core.Hi[i]+o)
			}
			if e != api.OK || !sameBox(wide, whole) {
				t.Fatal(k, c, wide, e)
			}
		}
		for _, at := range within(bounded(g.d)) {
			var want [][]int
			for _, c := range l {
				if wide, _ := space.Wide(g.d, g.l, c); space.Has(wide, at) {
					want = append(want, c)
				}
			}
			homes, e := space.Homes(g.d, g.l, at)
			if e != api.OK || !sameLists(homes, want) {
				t.Fatal(k, at, homes, e, want)
			}
			c, _ := space.Chunk(g.d, g.l, at)
			if _, is := slices.BinarySearchFunc(homes, c, space.Compare); !is {
				t.Fatal(k, at, "is not at home in its chunk")
			}
		}
	}
}
