package matrix_test

import (
	"math"
	"testing"

	"tesseract/api"
	"tesseract/matrix"
	"tesseract/space"
)

// refused is an array that is no matrix, and its error.
type refused struct {
	a api.Array
	e api.Errno
}

// spoiled returns a matrix of which something was changed.
func spoiled(change func(a *api.Array)) api.Array {
	a := of("1 2; 3 1/2")
	change(&a)
	return a
}

// refusedArrays returns arrays that are no matrices.
func refusedArrays() []refused {
	many := api.Array{Dims: []api.Dim{{Name: "x", Hi: 9999}, {Name: "y", Hi: 2}}, Attrs: []api.Attr{{Name: "v", Type: api.TText}}}
	for k := range api.MaxCells + 1 {
		many.Cells = append(many.Cells, api.Cell{At: list(k, 0), Vals: []api.Val{none(1)}})
	}
	return []refused{
		{api.Array{}, api.ErrArg},
		{many, api.ErrArg},
		{spoiled(func(a *api.Array) { a.Dims = nil }), api.ErrArg},
		{spoiled(func(a *api.Array) { a.Attrs = nil }), api.ErrArg},
		{spoiled(func(a *api.Array) { a.Dims[0].Name = "Row" }), api.ErrArg},
		{spoiled(func(a *api.Array) { a.Dims[1].Name = "row" }), api.ErrArg},
		{spoiled(func(a *api.Array) { a.Dims[1].Hi = -1 }), api.ErrArg},
		{spoiled(func(a *api.Array) { a.Dims[1].Hi = api.Open + 1 }), api.ErrArg},
		{spoiled(func(a *api.Array) { a.Dims[1].Hi = 0 }), api.ErrArg},
		{spoiled(func(a *api.Array) { a.Attrs[0].Type = 5 }), api.ErrArg},
		{spoiled(func(a *api.Array) { a.Attrs[0].Type = api.TInt }), api.ErrArg},
		{spoiled(func(a *api.Array) { a.Cells[1].At = list(1) }), api.ErrArg},
		{spoiled(func(a *api.Array) { a.Cells[1].At = list(0, -1) }), api.ErrArg},
		{spoiled(func(a *api.Array) { a.Cells[1].At = list(0, 0) }), api.ErrArg},
		{spoiled(func(a *api.Array) { a.Cells[0], a.Cells[1] = a.Cells[1], a.Cells[0] }), api.ErrArg},
		{spoiled(func(a *api.Array) { a.Cells[3].Vals[0] = num(2, 4) }), api.ErrArg},
		{spoiled(func(a *api.Array) { a.Cells[3].Vals[0] = num(most+1, 1) }), api.ErrArg},
		{spoiled(func(a *api.Array) { a.Cells[3].Vals = nil }), api.ErrArg},
		{spoiled(func(a *api.Array) { a.Cells[3].Vals[0] = none(0) }), api.ErrArg},
		{spoiled(func(a *api.Array) { a.Dims[1].Hi = 24 }), api.ErrShape},
		{parse("dim x 0:2\nattr v int\n1: 5\n"), api.ErrShape},
		{parse("dim x 0:2\ndim y 0:2\ndim z 0:2\nattr v int\n"), api.ErrShape},
		{parse("dim x 0:2\ndim y 0:2\ndim z 0:2\nattr v text\nattr w int\n0 0 0: ?1, ?2\n"), api.ErrShape},
		{parse("dim x 1:2\ndim y 0:2\nattr v int\n"), api.ErrShape},
		{parse("dim x 0:2\ndim y -1:2\nattr v int\n"), api.ErrShape},
		{parse("dim x 0:24\ndim y 0:23\nattr v int\n"), api.ErrShape},
		{parse("dim x 0:23\ndim y 0:24\nattr v text\n"), api.ErrShape},
		{parse("dim x 0:23\ndim y 0:*\nattr v int\n"), api.ErrShape},
		{parse("dim x 0:*\ndim y 0:23\nattr v text\n0 0: ?1\n"), api.ErrShape},
		{parse("dim x 0:2\ndim y 0:2\nattr v bool\n"), api.ErrType},
		{parse("dim x 0:2\ndim y 0:2\nattr v text\n0 0: ?1\n"), api.ErrType},
		{parse("dim x 0:2\ndim y 0:2\nattr v int\nattr w int\n0 0: 1, ?1\n"), api.ErrType},
		{parse("dim x 0:2\ndim y 0:2\nattr v int\n0 0: ?1\n"), api.ErrArg},
		{parse("dim x 0:2\ndim y 0:2\nattr v rat\n0 0: 1/2\n2 2: ?255\n"), api.ErrArg},
	}
}

// P9.1

func TestCheck(t *testing.T) {
	for k, x := range refusedArrays() {
		if e := matrix.Check(x.a); e != x.e {
			t.Error(k, e, "not", x.e)
		}
	}
	for k, a := range []api.Array{
		of("0"), of("1 2; 3 4"),
		parse("dim x 0:0\ndim y 0:0\nattr v int\n0 0: 5\n"),
		parse("dim x 0:23\ndim y 0:23\nattr v int\n"),
		parse("dim x 0:0\ndim y 0:23\nattr v rat\n0 0: 0\n0 23: -1099511627776/3\n"),
	} {
		if e := matrix.Check(a); e != api.OK {
			t.Error(k, e)
		}
	}
}

func TestSize(t *testing.T) {
	for k, x := range refusedArrays() {
		if n, m, e := matrix.Size(x.a); n != 0 || m != 0 || e != x.e {
			t.Error(k, n, m, e)
		}
	}
	for rows := 1; rows <= matrix.MaxSize; rows++ {
		for cols := 1; cols <= matrix.MaxSize; cols++ {
			if n, m, e := matrix.Size(zeros(rows, cols).array()); n != rows || m != cols || e != api.OK {
				t.Error(rows, cols, n, m, e)
			}
		}
	}
}

func TestNormal(t *testing.T) {
	for k, x := range refusedArrays() {
		a, e := matrix.Normal(x.a)
		expectError(t, k, a, e, x.e)
	}
	for s, want := range map[string]string{
		"dim a 0:2\ndim b 0:2\nattr w int\n0 0: 0\n1 2: -3\n":                    "dim row 0:2\ndim col 0:2\nattr v rat\n1 2: -3\n",
		"dim col 0:0\ndim row 0:1\nattr x rat\n0 0: 1/2\n0 1: 0\n":               "dim row 0:0\ndim col 0:1\nattr v rat\n0 0: 1/2\n",
		"dim v 0:23\ndim col 0:0\nattr row int\n":                                "dim row 0:23\ndim col 0:0\nattr v rat\n",
		"dim row 0:0\ndim col 0:23\nattr v rat\n0 23: 1099511627776\n":           "dim row 0:0\ndim col 0:23\nattr v rat\n0 23: 1099511627776\n",
		"dim row 0:0\ndim col 0:0\nattr v rat\n0 0: 1099511627775/1099511627776": "",
	} {
		if want == "" {
			s += "\n"
			want = s
		}
		a, e := matrix.Normal(parse(s))
		if got, _ := space.Print(a); e != api.OK || got != want {
			t.Errorf("%s: %s, error %d", s, got, e)
		}
	}
	d := dice(1)
	for range 100 {
		x := d.table(d.size(), d.size(), pick(&d, d.small, d.large))
		a, e := matrix.Normal(x.disguised(&d))
		expect(t, x, a, e, x)
		a, e = matrix.Normal(a)
		expect(t, x, a, e, x)
	}
}

// The error of Check comes before all others, that of the first matrix first.
func TestErrorOfCheckFirst(t *testing.T) {
	good := of("1 2 3; 3 4 5")
	for k, x := range refusedArrays() {
		for j, y := range append(refusedArrays(), refused{good, api.OK}) {
			for _, pair := range [][2]refused{{x, y}, {y, x}} {
				want := pair[0].e
				if want == api.OK {
					want = pair[1].e
				}
				a, l, e := matrix.Mul(pair[0].a, pair[1].a, 0, 0)
				expectError(t, list(k, j), a, e, want)
				if len(l) > 0 {
					t.Error(k, j, "steps")
				}
				a, e = matrix.Solve(pair[0].a, pair[1].a)
				expectError(t, list(k, j), a, e, want)
				a, n, e := matrix.Conjugate(pair[0].a, pair[1].a)
				expectError(t, list(k, j), a, e, want)
				if n != 0 {
					t.Error(k, j, n)
				}
			}
		}
		expectNoFactors(t, x.a, 0, 0, x.e)
		if l, e := matrix.Order(x.a); len(l) > 0 || e != x.e {
			t.Error(k, l, e)
		}
		for _, order := range [][]int{nil, list(0), list(0, 1), list(7)} {
			if n, e := matrix.Fill(x.a, order); n != 0 || e != x.e {
				t.Error(k, n, e)
			}
			expectNoLdl(t, x.a, order, x.e)
		}
	}
}

// rooms are sides of tiles and memories that are refused, and their errors.
func rooms() map[[2]int]api.Errno {
	return map[[2]int]api.Errno{
		{0, 3}: api.ErrArg, {9, 3}: api.ErrArg, {-1, 3}: api.ErrArg, {math.MinInt, 3}: api.ErrArg, {math.MaxInt, math.MaxInt}: api.ErrArg, {0, 2}: api.ErrArg, {9, math.MinInt}: api.ErrArg,
		{1, 2}: api.ErrMemory, {8, 2}: api.ErrMemory, {4, 0}: api.ErrMemory, {2, -3}: api.ErrMemory, {1, math.MinInt}: api.ErrMemory,
	}
}
