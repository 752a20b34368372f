package algebra_test

import (
	"slices"
	"testing"

	"tesseract/algebra"
	"tesseract/api"
)

// P4.7

// within returns all coordinates of dimensions that are not open, as they are compared.
func within(l []api.Dim) [][]int {
	out := [][]int{nil}
	for _, d := range l {
		var longer [][]int
		for _, at := range out {
			for x := d.Lo; x <= d.Hi; x++ {
				longer = append(longer, append(slices.Clone(at), x))
			}
		}
		out = longer
	}
	return out
}

func TestReshape(t *testing.T) {
	a := parse(table)
	b, e := algebra.Reshape(a, dims(dim("z", 1, 8)))
	expectString(t, "example", b, e, "dim z 1:8\nattr v int\n1: 5\n3: 7\n4: ?1\n8: 2\n")
	b, e = algebra.Reshape(a, dims(dim("y", -1, 0), dim("x", 0, 3)))
	expectString(t, "the same names", b, e, "dim y -1:0\ndim x 0:3\nattr v int\n-1 0: 5\n-1 2: 7\n-1 3: ?1\n0 3: 2\n")
	b, e = algebra.Reshape(a, dims(dim("p", 0, 1), dim("q", 7, 7), dim("r", 1, 2), dim("s", 3, 4)))
	expectString(t, "four dimensions", b, e, "dim p 0:1\ndim q 7:7\ndim r 1:2\ndim s 3:4\nattr v int\n0 7 1 3: 5\n0 7 2 3: 7\n0 7 2 4: ?1\n1 7 2 4: 2\n")
	far := parse("dim x -1073741824:1073741823\ndim y 0:1073741823\nattr v int\n-1073741824 5: 1\n1073741823 1073741823: 2\n")
	b, e = algebra.Reshape(far, dims(dim("x", 0, 1<<30-1), dim("y", 1, 1<<30), dim("z", 0, 1)))
	expectString(t, "many coordinates", b, e, "dim x 0:1073741823\ndim y 1:1073741824\ndim z 0:1\nattr v int\n0 3 1: 1\n1073741823 1073741824 1: 2\n")
}

func TestReshapeAgrees(t *testing.T) {
	d := dice(5)
	for range 600 {
		small := func(names ...string) []api.Dim {
			l := d.dims(names[:d.from(1, len(names))]...)
			for k := range l {
				l[k].Lo = min(l[k].Lo, api.MaxCoord-5)
				l[k].Hi = l[k].Lo + pick(&d, 0, 1, 1, 2, 3, 5)
			}
			return l
		}
		a := d.array(small("x", "y", "z"), d.attrs("v"), 12)
		to := small("p", "y", "x", "q")
		from, new := within(a.Dims), within(to)
		b, e := algebra.Reshape(a, to)
		if len(from) != len(new) {
			expectError(t, to, b, e, api.ErrShape)
			continue
		}
		var cells []api.Cell
		for _, c := range a.Cells {
			k := slices.IndexFunc(from, func(at []int) bool { return slices.Equal(at, c.At) })
			cells = append(cells, cell(new[k], c.Vals...))
		}
		expect(t, to, b, e, made(to, a.Attrs, cells), api.OK)
	}
}

func TestReshapeRefuses(t *testing.T) {
	a, open, huge := parse(table), parse("dim x 0:*\nattr v int\n"), api.Array{Dims: dims(dim("x", -api.MaxCoord, api.MaxCoord), dim("y", -api.MaxCoord, api.MaxCoord)), Attrs: []api.Attr{attr("v", 1)}}
	full := dim("p", -api.MaxCoord, api.MaxCoord)
	for k, x := range []struct {
		a    api.Array
		d    []api.Dim
		want api.Errno
	}{
		{a, nil, api.ErrShape},
		{a, dims(dim("a", 0, 7), dim("b", 0, 0), dim("c", 0, 0), dim("d", 0, 0), dim("e", 0, 0)), api.ErrShape},
		{a, dims(dim("v", 1, 8)), api.ErrName},
		{a, dims(dim("Z", 1, 8)), api.ErrName},
		{a, dims(dim("z", 1, 4), dim("z", 0, 1)), api.ErrName},
		{a, dims(dim("z", 8, 1)), api.ErrRange},
		{a, dims(dim("z", 8, 1), dim("", 0, 0)), api.ErrRange},
		{a, dims(dim("z", 1, api.Open)), api.ErrRange},
		{a, dims(dim("z", 1, 9)), api.ErrShape},
		{a, dims(dim("z", 1, 7)), api.ErrShape},
		{a, dims(full, dim("q", 0, api.MaxCoord), dim("r", 0, 3)), api.ErrOver},
		{open, dims(dim("z", 1, 8)), api.ErrRange},
		{open, open.Dims, api.ErrRange},
		{open, dims(dim("v", 1, api.Open)), api.ErrName},
		{open, dims(full, dim("q", 0, api.MaxCoord), dim("r", 0, 3)), api.ErrRange},
		{huge, dims(dim("z", 1, api.Open)), api.ErrOver},
		{huge, dims(dim("z", 1, 8)), api.ErrOver},
		{huge, huge.Dims, api.ErrOver},
		{huge, dims(dim("v", 1, 8)), api.ErrName},
	} {
		b, e := algebra.Reshape(x.a, x.d)
		expectError(t, k, b, e, x.want)
	}
}

// P4.8

func TestTranspose(t *testing.T) {
	a := parse(table)
	b, e := algebra.Transpose(a, names("y", "x"))
	expectString(t, "example", b, e, "dim y 0:1\ndim x 0:3\nattr v int\n0 0: 5\n0 1: 7\n1 1: ?1\n1 3: 2\n")
	b, e = algebra.Transpose(a, names("x", "y"))
	expectString(t, "the same order", b, e, table)
	for _, l := range [][]string{nil, {"x"}, {"y"}, {"q"}, {"x", "y", "x"}, {"x", "y", "v"}, {"q", "r", "s"}} {
		b, e := algebra.Transpose(a, l)
		expectError(t, l, b, e, api.ErrShape)
	}
	for _, l := range [][]string{{"x", "x"}, {"y", "y"}, {"x", "v"}, {"q", "y"}, {"", ""}} {
		b, e := algebra.Transpose(a, l)
		expectError(t, l, b, e, api.ErrName)
	}
	d := dice(6)
	for range 500 {
		all := names("w", "x", "y", "z")[:d.from(1, 4)]
		a := d.array(d.dims(all...), d.attrs("u", "v"), 30)
		order := shuffled(&d, all...)
		var to []api.Dim
		for _, name := range order {
			to = append(to, a.Dims[slices.Index(all, name)])
		}
		b, e := algebra.Transpose(a, order)
		if len(order) < len(all) {
			expectError(t, order, b, e, api.ErrShape)
			continue
		}
		expect(t, order, b, e, ofRecords(to, a.Attrs, records(a)), api.OK)
	}
}

// P4.9

func TestConcat(t *testing.T) {
	a := parse(table)
	b, e := algebra.Concat(a, a, "x")
	expectString(t, "example", b, e, "dim x 0:7\ndim y 0:1\nattr v int\n0 0: 5\n1 0: 7\n1 1: ?1\n3 1: 2\n4 0: 5\n5 0: 7\n5 1: ?1\n7 1: 2\n")
	b, e = algebra.Concat(a, a, "y")
	expectString(t, "along y", b, e, "dim x 0:3\ndim y 0:3\nattr v int\n0 0: 5\n0 2: 5\n1 0: 7\n1 1: ?1\n1 2: 7\n1 3: ?1\n3 1: 2\n3 3: 2\n")
	c := parse("dim x -5:-4\ndim y 0:1\nattr v int\n-4 1: 9\n")
	b, e = algebra.Concat(a, c, "x")
	expectString(t, "other bounds", b, e, "dim x 0:5\ndim y 0:1\nattr v int\n0 0: 5\n1 0: 7\n1 1: ?1\n3 1: 2\n5 1: 9\n")
	b, e = algebra.Concat(c, a, "x")
	expectString(t, "the other way round", b, e, "dim x -5:0\ndim y 0:1\nattr v int\n-4 1: 9\n-3 0: 5\n-2 0: 7\n-2 1: ?1\n0 1: 2\n")
	open := parse("dim x 0:0\ndim y 2:*\nattr v int\n0 5: 1\n")
	b, e = algebra.Concat(open, open, "x")
	expectString(t, "another dimension is open", b, e, "dim x 0:1\ndim y 2:*\nattr v int\n0 5: 1\n1 5: 1\n")
	low, high := parse("dim x -1073741824:1073741822\nattr v int\n"), parse("dim x 1073741824:1073741824\nattr v int\n1073741824: 1\n")
	b, e = algebra.Concat(low, high, "x")
	expectString(t, "the last coordinate", b, e, "dim x -1073741824:1073741823\nattr v int\n1073741823: 1\n")
	b, e = algebra.Concat(b, high, "x")
	expectString(t, "behind it", b, e, "dim x -1073741824:1073741824\nattr v int\n1073741823: 1\n1073741824: 1\n")
	b, e = algebra.Concat(b, high, "x")
	expectError(t, "too far", b, e, api.ErrRange)
}

func TestConcatRefuses(t *testing.T) {
	const base = "dim x 0:3\ndim y 0:1\nattr v int\nattr w rat\n"
	for k, x := range []struct {
		a, b, dim string
		want      api.Errno
	}{
		{base, base, "v", api.ErrName},
		{base, base, "", api.ErrName},
		{base, "dim z 0:*\nattr v int\n", "z", api.ErrName},
		{base, "dim z 0:*\nattr v int\n", "x", api.ErrShape},
		{base, "dim x 0:3\nattr v int\nattr w rat\n", "x", api.ErrShape},
		{base, "dim x 0:3\ndim y 0:1\ndim z 0:1\nattr v int\nattr w rat\n", "x", api.ErrShape},
		{base, "dim y 0:1\ndim x 0:3\nattr v int\nattr w rat\n", "x", api.ErrShape},
		{base, "dim x 0:3\ndim z 0:1\nattr v int\nattr w rat\n", "x", api.ErrShape},
		{base, "dim z 0:3\ndim y 0:1\nattr v int\nattr w rat\n", "x", api.ErrShape},
		{base, "dim x 0:3\ndim y 0:2\nattr v int\nattr w rat\n", "x", api.ErrShape},
		{base, "dim x 0:3\ndim y -1:1\nattr v int\nattr w rat\n", "x", api.ErrShape},
		{base, "dim x 0:3\ndim y 0:*\nattr v int\nattr w rat\n", "x", api.ErrShape},
		{base, "dim x 0:2\ndim y 0:1\nattr v int\nattr w rat\n", "y", api.ErrShape},
		{base, "dim x 0:*\ndim y 0:1\nattr v int\nattr w rat\n", "x", api.ErrShape},
		{"dim x 0:*\nattr v int\n", "dim x 0:3\nattr v int\n", "x", api.ErrShape},
		{"dim x 0:*\nattr v int\n", "dim x 0:*\nattr q int\n", "x", api.ErrShape},
		{base, "dim x 0:3\ndim y 0:1\nattr v int\n", "x", api.ErrType},
		{base, "dim x 0:3\ndim y 0:1\nattr v int\nattr w int\n", "x", api.ErrType},
		{base, "dim x 0:3\ndim y 0:1\nattr v int\nattr u rat\n", "x", api.ErrType},
		{base, "dim x 0:3\ndim y 0:1\nattr w rat\nattr v int\n", "x", api.ErrType},
		{base, "dim x 0:3\ndim y 0:1\nattr v int\nattr w rat\nattr u int\n", "x", api.ErrType},
		{base, "dim x 0:1073741824\ndim y 0:1\nattr w rat\nattr v int\n", "x", api.ErrType},
		{base, "dim x 0:1073741824\ndim y 0:1\nattr v int\nattr w rat\n", "x", api.ErrRange},
		{base, "dim x 4:1073741824\ndim y 0:1\nattr v int\nattr w rat\n", "x", api.OK},
		{base, "dim x 3:1073741824\ndim y 0:1\nattr v int\nattr w rat\n", "x", api.ErrRange},
		{"dim x 1073741824:1073741824\nattr v int\n", "dim x -1073741824:-1073741824\nattr v int\n", "x", api.ErrRange},
	} {
		b, e := algebra.Concat(parse(x.a), parse(x.b), x.dim)
		if x.want == api.OK {
			expectString(t, k, b, e, "dim x 0:1073741824\ndim y 0:1\nattr v int\nattr w rat\n")
			continue
		}
		expectError(t, k, b, e, x.want)
	}
}

func TestConcatMany(t *testing.T) {
	b, e := algebra.Concat(line("x", "v", 4000), line("x", "v", 96), "x")
	if e != api.OK || len(b.Cells) != api.MaxCells {
		t.Error(e, len(b.Cells))
	}
	b, e = algebra.Concat(line("x", "v", 4000), line("x", "v", 97), "x")
	expectError(t, "too many cells", b, e, api.ErrMany)
	far := line("x", "v", 4000)
	far.Dims[0].Hi = api.MaxCoord
	b, e = algebra.Concat(line("x", "v", 4000), far, "x")
	expectError(t, "too many cells, too far away", b, e, api.ErrRange)
	far.Attrs[0].Name = "w"
	b, e = algebra.Concat(line("x", "v", 4000), far, "x")
	expectError(t, "too many cells with another attribute", b, e, api.ErrType)
}

func TestConcatAgrees(t *testing.T) {
	d := dice(7)
	for range 600 {
		a := d.array(d.dims("x", "y", "z")[:d.from(1, 3)], d.attrs("u", "v"), 15)
		k := d.from(0, len(a.Dims)-1)
		dims := slices.Clone(a.Dims)
		dims[k] = d.dims(dims[k].Name)[0]
		b := d.array(dims, a.Attrs, 15)
		c, e := algebra.Concat(a, b, dims[k].Name)
		if a.Dims[k].Hi == api.Open || b.Dims[k].Hi == api.Open {
			expectError(t, dims, c, e, api.ErrShape)
			continue
		}
		want := slices.Clone(a.Dims)
		want[k].Hi += b.Dims[k].Hi - b.Dims[k].Lo + 1
		if want[k].Hi > api.MaxCoord {
			expectError(t, dims, c, e, api.ErrRange)
			continue
		}
		l := records(b)
		for _, r := range l {
			r.at[dims[k].Name] += a.Dims[k].Hi - b.Dims[k].Lo + 1
		}
		expect(t, dims, c, e, ofRecords(want, a.Attrs, append(records(a), l...)), api.OK)
	}
}
