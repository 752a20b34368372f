package algebra_test

import (
	"maps"
	"slices"
	"testing"

	"tesseract/algebra"
	"tesseract/api"
)

// P4.10

// together returns a record with what both have.
func together(a, b record) record {
	r := record{maps.Clone(a.at), maps.Clone(a.vals)}
	maps.Copy(r.at, b.at)
	maps.Copy(r.vals, b.vals)
	return r
}

// specJoin joins two arrays, by Join or by Cross.
func specJoin(a, b api.Array, cross bool) (api.Array, api.Errno) {
	common := 0
	out := dims()
	for _, x := range a.Dims {
		for _, y := range b.Dims {
			if x.Name == y.Name {
				common++
				x.Lo, x.Hi = max(x.Lo, y.Lo), min(x.Hi, y.Hi)
			}
		}
		out = append(out, x)
	}
	for _, y := range b.Dims {
		if !hasDim(a, y.Name) {
			out = append(out, y)
		}
	}
	clash := cross && common > 0
	for _, x := range a.Attrs {
		clash = clash || hasAttr(b, x.Name) || hasDim(b, x.Name)
	}
	for _, y := range b.Attrs {
		clash = clash || hasDim(a, y.Name)
	}
	attrs := append(slices.Clone(a.Attrs), b.Attrs...)
	switch {
	case !cross && common == 0:
		return api.Array{}, api.ErrShape
	case clash:
		return api.Array{}, api.ErrName
	case len(out) > api.MaxDims || len(attrs) > api.MaxAttrs:
		return api.Array{}, api.ErrMany
	case slices.ContainsFunc(out, func(x api.Dim) bool { return x.Lo > x.Hi }):
		return api.Array{}, api.ErrRange
	}
	var l []record
	for _, r := range records(a) {
		for _, s := range records(b) {
			fits := true
			for name, x := range r.at {
				y, is := s.at[name]
				fits = fits && (!is || x == y)
			}
			if fits {
				l = append(l, together(r, s))
			}
		}
	}
	return ofRecords(out, attrs, l), api.OK
}

func TestJoinAgrees(t *testing.T) {
	d := dice(8)
	count := map[api.Errno]int{}
	for k := range 4000 {
		a := d.some(names("x", "y", "z", "s"), names("u", "v"), 20)
		b := d.some(names("x", "y", "z", "q", "u")[:d.from(3, 5)], names("p", "w", "v", "s")[:d.from(2, 4)], 20)
		cross := k%4 == 0
		if cross {
			b = d.some(names("q", "r", "x"), names("p", "w", "u")[:d.from(1, 3)], 20)
		}
		c, e := algebra.Join(a, b)
		if cross {
			c, e = algebra.Cross(a, b)
		}
		want, f := specJoin(a, b, cross)
		expect(t, []api.Array{schemaOf(a), schemaOf(b)}, c, e, want, f)
		count[e]++
	}
	for _, e := range []api.Errno{api.OK, api.ErrShape, api.ErrName, api.ErrMany, api.ErrRange} {
		if count[e] < 20 {
			t.Error("too few results of this kind were tested:", e, count[e])
		}
	}
}

func TestJoin(t *testing.T) {
	a := parse(table)
	b := parse("dim y 1:5\nattr w text\n1: 'a'\n2: 'b'\n")
	c, e := algebra.Join(a, b)
	expectString(t, "example", c, e, "dim x 0:3\ndim y 1:1\nattr v int\nattr w text\n1 1: ?1, 'a'\n3 1: 2, 'a'\n")
	c, e = algebra.Join(b, a)
	expectString(t, "the other way round", c, e, "dim y 1:1\ndim x 0:3\nattr w text\nattr v int\n1 1: 'a', ?1\n1 3: 'a', 2\n")
	c, e = algebra.Join(a, parse("dim z 0:0\ndim y 0:*\ndim x 1:9\nattr w int\n0 0 1: 1\n0 0 2: 2\n0 1 3: 3\n"))
	expectString(t, "the common dimensions in another order", c, e, "dim x 1:3\ndim y 0:1\ndim z 0:0\nattr v int\nattr w int\n1 0 0: 7, 1\n3 1 0: 2, 3\n")
	c, e = algebra.Join(parse("dim x -4:*\nattr v int\n1073741824: 1\n"), parse("dim x 2:*\nattr w int\n1073741824: 2\n"))
	expectString(t, "open", c, e, "dim x 2:*\nattr v int\nattr w int\n1073741824: 1, 2\n")
	c, e = algebra.Join(parse("dim x 1073741824:*\nattr v int\n1073741824: 1\n"), parse("dim x 2:1073741824\nattr w int\n1073741824: 2\n"))
	expectString(t, "the last coordinate", c, e, "dim x 1073741824:1073741824\nattr v int\nattr w int\n1073741824: 1, 2\n")
	c, e = algebra.Join(parse("dim a 0:0\ndim b 0:0\ndim c 0:0\nattr v int\nattr p int\nattr q int\n0 0 0: 1, 2, 3\n"), parse("dim a 0:0\ndim d 0:0\nattr r int\nattr s int\nattr t int\n0 0: 4, 5, 6\n"))
	expectString(t, "as many as there can be", c, e, "dim a 0:0\ndim b 0:0\ndim c 0:0\ndim d 0:0\nattr v int\nattr p int\nattr q int\nattr r int\nattr s int\nattr t int\n0 0 0 0: 1, 2, 3, 4, 5, 6\n")
}

func TestJoinRefuses(t *testing.T) {
	for k, x := range []struct {
		a, b string
		want api.Errno
	}{
		{table, "dim z 0:3\nattr w int\n", api.ErrShape},
		{table, "dim z 0:3\nattr v int\n", api.ErrShape},
		{table, "dim z 0:3\nattr x int\n", api.ErrShape},
		{table, "dim v 0:3\nattr x int\n", api.ErrShape},
		{table, "dim x 0:3\nattr v int\n", api.ErrName},
		{table, "dim x 4:5\nattr w rat\nattr v rat\n", api.ErrName},
		{table, "dim x 0:3\nattr y int\n", api.ErrName},
		{table, "dim x 0:3\ndim v 0:3\nattr w int\n", api.ErrName},
		{table, "dim v 0:3\ndim x 0:3\ndim q 0:1\ndim r 0:1\nattr w int\n", api.ErrName},
		{table, "dim x 0:3\ndim p 0:1\ndim q 0:1\ndim r 0:1\nattr w int\n", api.ErrMany},
		{table, "dim x 9:9\ndim p 0:1\ndim q 0:1\ndim r 0:1\nattr w int\n", api.ErrMany},
		{table, "dim x 9:9\nattr a int\nattr b int\nattr c int\nattr d int\nattr e int\nattr f int\n", api.ErrMany},
		{table, "dim x 4:9\nattr w int\n", api.ErrRange},
		{table, "dim x 0:3\ndim y -3:-1\nattr w int\n", api.ErrRange},
		{table, "dim y -3:-1\ndim p 0:1\ndim x 0:3\nattr w int\n", api.ErrRange},
	} {
		c, e := algebra.Join(parse(x.a), parse(x.b))
		expectError(t, k, c, e, x.want)
	}
}

func TestCross(t *testing.T) {
	a, b := parse("dim x 0:3\nattr v int\n1: 8\n2: 9\n"), parse("dim z 4:*\nattr w bool\n4: true\n5: ?7\n")
	c, e := algebra.Cross(a, b)
	expectString(t, "cross", c, e, "dim x 0:3\ndim z 4:*\nattr v int\nattr w bool\n1 4: 8, true\n1 5: 8, ?7\n2 4: 9, true\n2 5: 9, ?7\n")
	for k, x := range []struct {
		a, b string
		want api.Errno
	}{
		{table, "dim y 0:1\nattr w int\n", api.ErrName},
		{table, "dim z 0:1\nattr v int\n", api.ErrName},
		{table, "dim z 0:1\nattr y int\n", api.ErrName},
		{table, "dim v 0:1\nattr w int\n", api.ErrName},
		{table, "dim p 0:1\ndim q 0:1\ndim r 0:1\ndim v 0:1\nattr w int\n", api.ErrName},
		{table, "dim p 0:1\ndim q 0:1\ndim r 0:1\nattr w int\n", api.ErrMany},
		{table, "dim p 0:1\nattr a int\nattr b int\nattr c int\nattr d int\nattr e int\nattr f int\n", api.ErrMany},
	} {
		c, e := algebra.Cross(parse(x.a), parse(x.b))
		expectError(t, k, c, e, x.want)
	}
}

func TestJoinMany(t *testing.T) {
	c, e := algebra.Cross(line("x", "v", 64), line("y", "w", 64))
	if e != api.OK || len(c.Cells) != api.MaxCells {
		t.Error(e, len(c.Cells))
	}
	c, e = algebra.Cross(line("x", "v", 241), line("y", "w", 17))
	expectError(t, "too many cells", c, e, api.ErrMany)
	c, e = algebra.Cross(line("x", "v", api.MaxCells), line("y", "w", api.MaxCells))
	expectError(t, "far too many cells", c, e, api.ErrMany)
	d := dims(dim("x", 0, 9), dim("y", 0, 999))
	wide := func(attribute, second string, n int) api.Array {
		a := line("q", attribute, n)
		a.Dims = slices.Clone(d)
		a.Dims[1].Name = second
		for k := range a.Cells {
			a.Cells[k].At = list(k/64, k%64)
		}
		return a
	}
	c, e = algebra.Join(wide("v", "y", 64), wide("w", "z", 65))
	if e != api.OK || len(c.Cells) != api.MaxCells {
		t.Error(e, len(c.Cells))
	}
	c, e = algebra.Join(wide("v", "y", 65), wide("w", "z", 65))
	expectError(t, "a join with too many cells", c, e, api.ErrMany)
	c, e = algebra.Join(line("x", "v", api.MaxCells), line("x", "w", api.MaxCells))
	if e != api.OK || len(c.Cells) != api.MaxCells {
		t.Error(e, len(c.Cells))
	}
}

// P4.11

// specMerge merges two arrays.
func specMerge(a, b api.Array) (api.Array, api.Errno) {
	if len(a.Dims) != len(b.Dims) {
		return api.Array{}, api.ErrShape
	}
	out := dims()
	for k, x := range a.Dims {
		y := b.Dims[k]
		if x.Name != y.Name {
			return api.Array{}, api.ErrShape
		}
		out = append(out, dim(x.Name, min(x.Lo, y.Lo), max(x.Hi, y.Hi)))
	}
	if !slices.Equal(a.Attrs, b.Attrs) {
		return api.Array{}, api.ErrType
	}
	l := records(a)
	for _, r := range records(b) {
		if !slices.ContainsFunc(l, func(x record) bool { return maps.Equal(x.at, r.at) }) {
			l = append(l, r)
		}
	}
	return ofRecords(out, a.Attrs, l), api.OK
}

func TestMerge(t *testing.T) {
	a := parse(table)
	b := parse("dim x -2:3\ndim y 1:2\nattr v int\n-1 1: 6\n1 1: 9\n3 2: 8\n")
	c, e := algebra.Merge(a, b)
	expectString(t, "merge", c, e, "dim x -2:3\ndim y 0:2\nattr v int\n-1 1: 6\n0 0: 5\n1 0: 7\n1 1: ?1\n3 1: 2\n3 2: 8\n")
	c, e = algebra.Merge(b, a)
	expectString(t, "the other way round", c, e, "dim x -2:3\ndim y 0:2\nattr v int\n-1 1: 6\n0 0: 5\n1 0: 7\n1 1: 9\n3 1: 2\n3 2: 8\n")
	c, e = algebra.Merge(parse("dim x 0:*\nattr v int\n"), parse("dim x -4:-3\nattr v int\n-3: 1\n"))
	expectString(t, "open and apart", c, e, "dim x -4:*\nattr v int\n-3: 1\n")
	for k, x := range []struct {
		b    string
		want api.Errno
	}{
		{"dim x 0:3\nattr v int\n", api.ErrShape},
		{"dim x 0:3\ndim y 0:1\ndim z 0:1\nattr v int\n", api.ErrShape},
		{"dim y 0:1\ndim x 0:3\nattr v int\n", api.ErrShape},
		{"dim x 0:3\ndim z 0:1\nattr w int\n", api.ErrShape},
		{"dim x 0:3\ndim y 0:1\nattr w int\n", api.ErrType},
		{"dim x 0:3\ndim y 0:1\nattr v rat\n", api.ErrType},
		{"dim x 0:3\ndim y 0:1\nattr v int\nattr w int\n", api.ErrType},
	} {
		c, e := algebra.Merge(a, parse(x.b))
		expectError(t, k, c, e, x.want)
	}
}

func TestMergeAgrees(t *testing.T) {
	d := dice(9)
	for range 1000 {
		a := d.some(names("x", "y", "z"), names("u", "v"), 20)
		b := d.some(names("x", "y", "z"), names("u", "v"), 20)
		if d.next()%4 > 0 {
			b = d.array(d.dims("x", "y", "z")[:len(a.Dims)], a.Attrs, 20)
			a = d.array(d.dims("x", "y", "z")[:len(a.Dims)], a.Attrs, 20)
		}
		c, e := algebra.Merge(a, b)
		want, f := specMerge(a, b)
		expect(t, []api.Array{schemaOf(a), schemaOf(b)}, c, e, want, f)
	}
}

func TestMergeMany(t *testing.T) {
	full, next := line("x", "v", api.MaxCells), line("x", "v", api.MaxCells)
	c, e := algebra.Merge(full, next)
	expect(t, "the same coordinates", c, e, full, api.OK)
	next.Cells = next.Cells[:1]
	next.Cells[0].At = list(api.MaxCells)
	c, e = algebra.Merge(full, next)
	expectError(t, "one more cell", c, e, api.ErrMany)
	c, e = algebra.Merge(next, full)
	expectError(t, "one more cell in front", c, e, api.ErrMany)
	full.Cells = full.Cells[1:]
	if c, e = algebra.Merge(full, next); e != api.OK || len(c.Cells) != api.MaxCells {
		t.Error(e, len(c.Cells))
	}
	next.Attrs[0].Type = api.TRat
	full.Cells = append(full.Cells, cell(list(5000), num(1)))
	c, e = algebra.Merge(full, next)
	expectError(t, "one more cell, of another type", c, e, api.ErrType)
}
