package chunk_test

import (
	"slices"
	"testing"

	"tesseract/api"
	"tesseract/chunk"
	"tesseract/space"
)

// sample returns the array of the document's examples.
func sample() api.Array {
	return api.Array{
		Dims:  []api.Dim{dim("x", 0, 3), dim("y", 0, 1)},
		Attrs: []api.Attr{attr("v", api.TInt)},
		Cells: []api.Cell{cell(list(0, 0), num(5)), cell(list(1, 0), num(7)), cell(list(1, 1), none(1)), cell(list(3, 1), num(2))},
	}
}

// grid returns a layout with some sides and overlaps.
func grid(sides, overlap []int) api.Layout {
	return api.Layout{Sides: sides, Overlap: overlap, Order: api.RowMajor, Form: api.Dense, Codec: api.Plain}
}

// line returns an array with one dimension and cells at n coordinates from 0 on.
func line(n int) api.Array {
	a := api.Array{Dims: []api.Dim{dim("x", 0, api.Open)}, Attrs: []api.Attr{attr("v", api.TInt)}}
	for k := range n {
		a.Cells = append(a.Cells, cell(list(k), num(int64(k%7))))
	}
	return a
}

// arrays returns arrays, each with a layout for it.
func arrays() ([]api.Array, []api.Layout) {
	r := dice(21)
	l := []api.Array{sample(), line(0), line(200), line(api.MaxCells)}
	layouts := []api.Layout{grid(list(2, 2), list(1, 0)), grid(list(4), list(1)), grid(list(7), list(3)), grid(list(64), list(16))}
	for n := range 300 {
		dims := r.from(1, 4)
		a := r.array(dims, r.from(0, 40), 1+12/dims)
		layout := r.layout(dims, 6-dims+n%3)
		if space.Layout(a.Dims, layout) == api.OK {
			l, layouts = append(l, a), append(layouts, layout)
		}
	}
	return l, layouts
}

// specSplit returns the chunks of an array by their boxes.
func specSplit(a api.Array, l api.Layout) []chunk.Chunk {
	var out []chunk.Chunk
	for _, c := range a.Cells {
		no := list()
		for k, d := range a.Dims {
			no = append(no, (c.At[k]-d.Lo)/l.Sides[k])
		}
		if slices.ContainsFunc(out, func(c chunk.Chunk) bool { return slices.Equal(c.No, no) }) {
			continue
		}
		box, _ := space.Wide(a.Dims, l, no)
		cut, _ := space.Cut(a, box)
		out = append(out, chunk.Chunk{No: no, Box: box, Cells: cut.Cells})
	}
	slices.SortFunc(out, func(a, b chunk.Chunk) int { return slices.Compare(a.No, b.No) })
	return out
}

// P3.5

func TestSplit(t *testing.T) {
	l, layouts := arrays()
	for k, a := range l {
		x := api.Array{Dims: roomy(a.Dims, dim("behind", 0, 0)), Attrs: roomy(a.Attrs, attr("behind", 1)), Cells: roomyCells(a.Cells)}
		c, e := chunk.Split(x, layouts[k])
		if e != api.OK || !sameChunks(c, specSplit(a, layouts[k])) {
			t.Fatalf("%d: %+v, %d", k, c, e)
		}
		before := specSplit(a, layouts[k])
		var cells []api.Cell
		for i := range c {
			cells = append(cells, c[i].Cells...)
			spoilChunk(chunk.Chunk{No: c[i].No, Box: c[i].Box})
			if i+1 < len(c) && !sameChunks(c[i+1:], before[i+1:]) {
				t.Fatal(k, "chunks share memory")
			}
		}
		apart(t, cells)
		if !sameCells(x.Cells, a.Cells) || !slices.Equal(x.Dims, a.Dims) {
			t.Fatal(k, "Split shares memory with its argument, or changes it")
		}
	}
}

func TestSplitExample(t *testing.T) {
	a := sample()
	c, e := chunk.Split(a, grid(list(2, 2), list(1, 0)))
	if e != api.OK || !sameChunks(c, []chunk.Chunk{
		{No: list(0, 0), Box: api.Box{Lo: list(0, 0), Hi: list(2, 1)}, Cells: a.Cells[:3]},
		{No: list(1, 0), Box: api.Box{Lo: list(1, 0), Hi: list(3, 1)}, Cells: a.Cells[1:]},
	}) {
		t.Error(c, e)
	}
	a.Cells = a.Cells[:1] // the chunk (0, 1) has this cell in its wide box, but not in its core
	if c, e := chunk.Split(a, grid(list(1, 1), list(0, 1))); e != api.OK || len(c) != 1 || !slices.Equal(c[0].No, list(0, 0)) {
		t.Error(c, e)
	}
	a.Dims = []api.Dim{dim("x", -api.MaxCoord, api.Open), dim("y", api.MaxCoord, api.Open)}
	a.Cells = []api.Cell{cell(list(-api.MaxCoord, api.MaxCoord), num(1)), cell(list(api.MaxCoord, api.MaxCoord), num(2))}
	c, e = chunk.Split(a, grid(list(64, 1), list(0, 1)))
	if e != api.OK || len(c) != 2 || !slices.Equal(c[1].No, list(1<<25, 0)) || !slices.Equal(c[1].Box.Hi, list(api.MaxCoord, api.MaxCoord)) {
		t.Error(c, e)
	}
}

func TestSplitRefuses(t *testing.T) {
	good := grid(list(2, 2), list(1, 0))
	tiled := good
	tiled.Order = api.Tiled
	spoiled, unsorted, nameless := sample(), sample(), sample()
	spoiled.Cells[1].Vals[0] = txt("a")
	unsorted.Cells[1], unsorted.Cells[2] = unsorted.Cells[2], unsorted.Cells[1]
	nameless.Dims[1].Name = ""
	for k, x := range []struct {
		a    api.Array
		l    api.Layout
		want api.Errno
	}{
		{api.Array{}, good, api.ErrArg}, {spoiled, good, api.ErrArg}, {unsorted, good, api.ErrArg}, {nameless, good, api.ErrArg}, {spoiled, api.Layout{}, api.ErrArg}, {line(api.MaxCells + 1), good, api.ErrArg},
		{sample(), api.Layout{}, api.ErrShape}, {sample(), grid(list(2), list(1)), api.ErrShape}, {sample(), grid(list(2, 0), list(1, 0)), api.ErrRange}, {sample(), grid(list(2, 65), list(1, 0)), api.ErrRange},
		{sample(), grid(list(64, 64), list(1, 0)), api.ErrMany}, {sample(), tiled, api.ErrArg}, {line(0), grid(list(4), list(5)), api.ErrRange},
	} {
		if c, e := chunk.Split(x.a, x.l); e != x.want || len(c) > 0 {
			t.Error(k, c, e, x.want)
		}
	}
}

// P3.6

// joins checks what Join returns for some chunks of an array.
func joins(t *testing.T, a api.Array, l api.Layout, chunks []chunk.Chunk, want []api.Cell) {
	t.Helper()
	b, e := chunk.Join(a.Dims, a.Attrs, l, chunks)
	if e != api.OK || !slices.Equal(b.Dims, a.Dims) || !slices.Equal(b.Attrs, a.Attrs) || !sameCells(b.Cells, want) || space.Check(b) != api.OK {
		t.Fatalf("%+v: %d; %+v", l, e, b)
	}
}

// refuses checks that Join returns an error.
func refuses(t *testing.T, what string, a api.Array, l api.Layout, chunks []chunk.Chunk, want api.Errno) {
	t.Helper()
	if b, e := chunk.Join(a.Dims, a.Attrs, l, chunks); e != want || !isNoArray(b) {
		t.Errorf("%s: %d, not %d", what, e, want)
	}
}

func TestJoinExample(t *testing.T) {
	a, l := sample(), grid(list(2, 2), list(1, 0))
	c := split(t, a, l)
	joins(t, a, l, c, a.Cells)
	refuses(t, "the second chunk alone", a, l, c[1:], api.ErrLost)
}

func TestJoinMemory(t *testing.T) {
	a, l := sample(), grid(list(2, 2), list(1, 0))
	d, attrs := roomy(a.Dims, dim("behind", 0, 0)), roomy(a.Attrs, attr("behind", 1))
	chunks := roomy(split(t, a, l), chunk.Chunk{No: list(-1)})
	for k, c := range chunks {
		chunks[k] = roomyChunk(c)
	}
	b, e := chunk.Join(d, attrs, l, chunks)
	if e != api.OK || !sameCells(b.Cells, a.Cells) {
		t.Fatal(b, e)
	}
	spoil(b.Dims, api.Dim{})
	spoil(b.Attrs, api.Attr{})
	apart(t, b.Cells)
	spoilCells(b.Cells)
	if !slices.Equal(d, a.Dims) || !slices.Equal(attrs, a.Attrs) || !sameChunks(chunks, split(t, a, l)) {
		t.Error("Join shares memory with its arguments, or changes them")
	}
}

// TestJoinChunkErrors has chunks that Encode refuses, behind one that it accepts.
func TestJoinChunkErrors(t *testing.T) {
	_, _, _, good := example()
	good.Cells = nil
	for _, x := range refusals() {
		a := api.Array{Dims: x.d, Attrs: x.a}
		refuses(t, x.what, a, x.l, []chunk.Chunk{x.c, x.c, {}}, x.want)
		if x.grid {
			refuses(t, x.what+", no chunks", a, x.l, nil, x.want)
		} else {
			refuses(t, x.what+", behind a good one", a, x.l, []chunk.Chunk{good, x.c}, x.want)
		}
	}
	a, l := sample(), grid(list(2, 2), list(1, 0))
	c := split(t, a, l)
	refuses(t, "twice", a, l, []chunk.Chunk{c[0], c[1], c[0]}, api.ErrHave)
	other := c[0]
	other.Cells = nil
	refuses(t, "twice, and a conflict", a, l, []chunk.Chunk{c[0], c[1], other}, api.ErrHave)
	refuses(t, "twice, then an error", a, l, []chunk.Chunk{c[0], c[0], {}}, api.ErrHave)
	refuses(t, "an error, then twice", a, l, []chunk.Chunk{c[0], {}, c[0]}, api.ErrShape)
	other.Box = api.Box{}
	refuses(t, "twice, with an error", a, l, []chunk.Chunk{c[0], other}, api.ErrArg)
}

func TestJoinConflicts(t *testing.T) {
	a := line(30)
	l := grid(list(4), list(2))
	fresh := func() []chunk.Chunk { return split(t, a, l) }
	for i := range fresh() {
		for k, x := range fresh()[i].Cells {
			homes, _ := space.Homes(a.Dims, l, x.At)
			c := fresh()
			c[i].Cells[k].Vals[0] = num(9)
			d := fresh()
			d[i].Cells = slices.Delete(d[i].Cells, k, k+1)
			if len(homes) > 1 {
				refuses(t, "another value", a, l, c, api.ErrConflict)
				refuses(t, "no cell", a, l, d, api.ErrConflict)
				slices.Reverse(c)
				slices.Reverse(d)
				refuses(t, "another value, reversed", a, l, c, api.ErrConflict)
				refuses(t, "no cell, reversed", a, l, d, api.ErrConflict)
				continue
			}
			changed := slices.Clone(a.Cells)
			changed[x.At[0]] = cell(x.At, num(9))
			joins(t, a, l, c, changed)
			joins(t, a, l, d, slices.Delete(slices.Clone(a.Cells), x.At[0], x.At[0]+1))
		}
	}
	c := fresh()
	c[3].Cells = nil
	refuses(t, "a conflict, and a cell that is lost", a, l, c[1:], api.ErrConflict)
	c = fresh()
	c[6].Cells[0].Vals[0] = none(1)
	refuses(t, "a cell that is lost, and a conflict", a, l, c[1:], api.ErrConflict)
}

// TestJoinEmpty has chunks whose cores have no cells.
func TestJoinEmpty(t *testing.T) {
	a, l := line(0), grid(list(4), list(1))
	joins(t, a, l, nil, nil)
	empty := func(no int) chunk.Chunk {
		box, _ := space.Wide(a.Dims, l, list(no))
		return chunk.Chunk{No: list(no), Box: box}
	}
	joins(t, a, l, []chunk.Chunk{empty(5), empty(0), empty(4), empty((api.MaxCoord + 1) / 4)}, nil)
	edge := empty(1) // its wide box begins with the last coordinate of the chunk 0
	edge.Cells = []api.Cell{cell(list(3), num(1))}
	refuses(t, "a cell in the core of no chunk", a, l, []chunk.Chunk{edge}, api.ErrLost)
	refuses(t, "a cell that the other chunk has not", a, l, []chunk.Chunk{edge, empty(0)}, api.ErrConflict)
	zero := empty(0)
	zero.Cells = edge.Cells
	joins(t, a, l, []chunk.Chunk{edge, zero}, edge.Cells)
	joins(t, a, l, []chunk.Chunk{zero}, edge.Cells)
}

func TestJoinMany(t *testing.T) {
	a := line(api.MaxCells)
	l := grid(list(64), list(16))
	c := split(t, a, l)
	joins(t, a, l, c, a.Cells) // all chunks together have more cells, but their cores have not
	box, _ := space.Wide(a.Dims, l, list(65))
	more := chunk.Chunk{No: list(65), Box: box, Cells: []api.Cell{cell(list(65*64+20), num(1))}}
	refuses(t, "too many", a, l, append(slices.Clone(c), more), api.ErrMany)
	more.Cells[0].At[0] = 65*64 - 1
	refuses(t, "too many, and a lost one", a, l, append(slices.Clone(c), more), api.ErrLost)
	more.Cells[0].At[0] = 65*64 + 20
	c[3].Cells[0].Vals = []api.Val{none(3)}
	refuses(t, "too many, and a conflict", a, l, append(slices.Clone(c), more), api.ErrConflict)
}

// P3.9

func TestJoin(t *testing.T) {
	r := dice(31)
	l, layouts := arrays()
	for k, a := range l {
		layout := layouts[k]
		for range 3 {
			var read []chunk.Chunk
			for _, c := range split(t, a, layout) {
				x, e := chunk.Decode(a.Dims, a.Attrs, layout, encode(t, a.Dims, a.Attrs, layout, c))
				if e != api.OK || !sameChunk(x, c) {
					t.Fatal(k, x, e)
				}
				i := r.from(0, len(read))
				read = slices.Insert(read, i, x)
			}
			joins(t, a, layout, read, a.Cells)
			joins(t, a, layout, split(t, a, layout), a.Cells)
			layout.Form, layout.Codec = layout.Form%3+1, layout.Codec%3+1
		}
	}
}

// TestJoinOneLess leaves out each of the chunks.
func TestJoinOneLess(t *testing.T) {
	l, layouts := arrays()
	lost, without := 0, 0
	for k, a := range l {
		chunks := split(t, a, layouts[k])
		if len(chunks) > 50 {
			continue
		}
		for i, gone := range chunks {
			others := slices.Delete(slices.Clone(chunks), i, i+1)
			core, _ := space.Core(a.Dims, layouts[k], gone.No)
			seen := false
			var rest []api.Cell
			for _, c := range a.Cells {
				if !space.Has(core, c.At) {
					rest = append(rest, c)
					continue
				}
				seen = seen || slices.ContainsFunc(others, func(x chunk.Chunk) bool { return space.Has(x.Box, c.At) })
			}
			if seen {
				refuses(t, "one less", a, layouts[k], others, api.ErrLost)
				lost++
			} else {
				joins(t, a, layouts[k], others, rest)
				without++
			}
		}
	}
	if lost < 500 || without < 500 {
		t.Error("too few:", lost, without)
	}
}

// P3.10

func TestOverlaps(t *testing.T) {
	l, layouts := arrays()
	for k, a := range l {
		chunks := split(t, a, layouts[k])
		for _, c := range a.Cells {
			cores := 0
			for _, x := range chunks {
				core, _ := space.Core(a.Dims, layouts[k], x.No)
				if space.Has(core, c.At) {
					cores++
				}
				has := slices.ContainsFunc(x.Cells, func(y api.Cell) bool { return slices.Equal(y.At, c.At) && slices.Equal(y.Vals, c.Vals) })
				if has != space.Has(x.Box, c.At) {
					t.Fatal(k, c, x.No)
				}
			}
			if cores != 1 {
				t.Fatal(k, c, cores)
			}
		}
	}
}
