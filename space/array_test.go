package space_test

import (
	"slices"
	"testing"

	"tesseract/api"
	"tesseract/space"
)

// spoiled are arrays with one error and more, and what Check returns for them.
func spoiledArrays() []struct {
	a    api.Array
	want api.Errno
} {
	type row = struct {
		a    api.Array
		want api.Errno
	}
	var out []row
	add := func(want api.Errno, change func(a *api.Array)) {
		a := sample()
		change(&a)
		out = append(out, row{a, want})
	}
	add(api.ErrShape, func(a *api.Array) { a.Dims, a.Attrs = nil, nil })
	add(api.ErrName, func(a *api.Array) { a.Dims[1].Name = "x" })
	add(api.ErrMany, func(a *api.Array) { a.Attrs, a.Cells[0].At = nil, nil })
	add(api.ErrType, func(a *api.Array) { a.Attrs[0].Type = 7 })
	add(api.ErrShape, func(a *api.Array) { a.Cells[1].At = list(1) })
	add(api.ErrShape, func(a *api.Array) { a.Cells[1].At = list(1, 0, 0) })
	add(api.ErrShape, func(a *api.Array) { a.Cells[1].At = nil })
	add(api.ErrShape, func(a *api.Array) { a.Cells[1].Vals = nil })
	add(api.ErrShape, func(a *api.Array) { a.Cells[1].Vals = []api.Val{num(1), num(2)} })
	add(api.ErrShape, func(a *api.Array) { a.Cells[1] = cell(list(9, 9), num(1), txt("a")) })
	add(api.ErrRange, func(a *api.Array) { a.Cells[0].At = list(0, -1) })
	add(api.ErrRange, func(a *api.Array) { a.Cells[3].At = list(4, 1) })
	add(api.ErrRange, func(a *api.Array) { a.Cells[3] = cell(list(3, 2), txt("a")) })
	add(api.ErrRange, func(a *api.Array) { a.Cells[3].At = list(farNumbers[5], farNumbers[0]) })
	add(api.ErrRange, func(a *api.Array) { a.Dims[1].Hi, a.Cells[3].At = api.Open, list(3, api.Open) })
	add(api.ErrType, func(a *api.Array) { a.Cells[1].Vals[0] = rat(1, 2) })
	add(api.ErrType, func(a *api.Array) { a.Cells[1].Vals[0] = txt("a") })
	add(api.ErrType, func(a *api.Array) { a.Cells[1].Vals[0] = boolean(true) })
	add(api.ErrType, func(a *api.Array) { a.Cells[1].Vals[0] = api.Val{} })
	add(api.ErrType, func(a *api.Array) { a.Cells[1].Vals[0] = rat(2, 0) })
	add(api.ErrType, func(a *api.Array) { a.Cells[1].Vals[0] = num(api.MaxNum + 1) })
	add(api.ErrType, func(a *api.Array) { a.Cells[1] = cell(list(0, 0), none(0)) })
	add(api.ErrType, func(a *api.Array) { a.Attrs[0].Type, a.Cells[0].Vals[0] = api.TText, txt("\x1f") })
	add(api.ErrHave, func(a *api.Array) { a.Cells[1].At = list(0, 0) })
	add(api.ErrHave, func(a *api.Array) { a.Cells[3].At = list(1, 1) })
	add(api.ErrArg, func(a *api.Array) { a.Cells[3].At = list(1, 0) })
	add(api.ErrArg, func(a *api.Array) { a.Cells[0].At = list(3, 1) })
	add(api.ErrArg, func(a *api.Array) { a.Cells[0], a.Cells[3].At = a.Cells[3], list(9, 9) })
	add(api.ErrHave, func(a *api.Array) { a.Cells[1].At, a.Cells[2].At = list(0, 0), nil })
	add(api.ErrShape, func(a *api.Array) { a.Cells[1].At, a.Cells[2].At = nil, list(1, 0) })
	many := full()
	many.Cells = append(many.Cells, cell(nil))
	return append(out, row{many, api.ErrMany}, row{api.Array{}, api.ErrShape})
}

// P2.2

func TestCheck(t *testing.T) {
	for k, a := range arrays() {
		if e := space.Check(a); e != api.OK {
			t.Error(k, e)
		}
	}
	for k, x := range spoiledArrays() {
		if e := space.Check(x.a); e != x.want {
			t.Error(k, e, x.want)
		}
	}
}

func TestMake(t *testing.T) {
	d := dice(3)
	for k, want := range arrays() {
		for range 5 {
			a := deep(want)
			for i := range a.Cells {
				j := d.from(0, i)
				a.Cells[i], a.Cells[j] = a.Cells[j], a.Cells[i]
			}
			before := deep(a)
			b, e := space.Make(a.Dims, a.Attrs, a.Cells)
			if e != api.OK || !sameArray(b, want) || !sameArray(a, before) {
				t.Fatal(k, e)
			}
			valid(t, b)
			apart(t, "Make", b, a, before)
		}
	}
}

func TestMakeRefuses(t *testing.T) {
	for k, x := range spoiledArrays() {
		a, e := space.Make(x.a.Dims, x.a.Attrs, x.a.Cells)
		if x.want != api.ErrHave && x.want != api.ErrArg && (e != x.want || !isZero(a)) {
			t.Error(k, a, e, x.want)
		}
	}
	s := sample()
	for k, x := range []struct {
		cells []api.Cell
		want  api.Errno
	}{
		{append(sample().Cells, sample().Cells[0]), api.ErrHave},
		{[]api.Cell{s.Cells[3], s.Cells[0], s.Cells[3]}, api.ErrHave},
		{[]api.Cell{cell(list(0, 0), num(1)), cell(list(0, 0), num(2))}, api.ErrHave},
		{[]api.Cell{s.Cells[0], s.Cells[0], cell(list(0, 0))}, api.ErrShape},
		{[]api.Cell{s.Cells[0], s.Cells[0], cell(list(0, 2), num(1))}, api.ErrRange},
		{[]api.Cell{s.Cells[0], s.Cells[0], cell(list(0, 1), txt(""))}, api.ErrType},
		{[]api.Cell{s.Cells[3], cell(list(0, 1), txt("")), cell(list(0, 2), num(1)), cell(nil)}, api.ErrType},
	} {
		if a, e := space.Make(s.Dims, s.Attrs, x.cells); e != x.want || !isZero(a) {
			t.Error(k, a, e)
		}
	}
	if a, e := space.Make(s.Dims, s.Attrs, nil); e != api.OK || !sameSchema(a, s) || len(a.Cells) != 0 {
		t.Error(a, e)
	}
}

// P2.3

func TestGet(t *testing.T) {
	for k, a := range arrays() {
		before := deep(a)
		for _, i := range []int{0, 1, len(a.Cells) / 2, len(a.Cells) - 1} {
			if i < 0 || i >= len(a.Cells) {
				continue
			}
			v, is := space.Get(a, a.Cells[i].At)
			if !is || !slices.Equal(v, before.Cells[i].Vals) {
				t.Error(k, v, is)
			}
			v = v[:cap(v)]
			clear(v)
			if !sameArray(a, before) {
				t.Error("Get shares memory with its argument")
			}
		}
	}
	for _, at := range [][]int{nil, {}, {1}, {1, 0, 0}, {0, 1}, {2, 0}, {-1, 0}, {1, 2}, {farNumbers[0], farNumbers[5]}} {
		if v, is := space.Get(sample(), at); is || len(v) != 0 {
			t.Error(at, v)
		}
	}
	for k, x := range spoiledArrays() {
		for _, c := range x.a.Cells[:min(4, len(x.a.Cells))] {
			if v, is := space.Get(x.a, c.At); is || len(v) != 0 {
				t.Error(k, v)
			}
		}
	}
}

func TestCompare(t *testing.T) {
	l := [][]int{nil, {farNumbers[0]}, {farNumbers[0], farNumbers[5]}, {-1}, {-1, -5}, {-1, 0}, {0}, {0, 0}, {0, 0, 0}, {0, 0, 0, 0, 0, 0}, {0, 1}, {1}, {1, farNumbers[0]}, {1, 0}, {farNumbers[5]}, {farNumbers[5], 0}}
	for i, a := range l {
		for k, b := range l {
			want := 0
			if i < k {
				want = -1
			} else if i > k {
				want = 1
			}
			if c := space.Compare(a, b); c != want {
				t.Error(a, b, c)
			}
		}
	}
	if space.Compare([]int{}, nil) != 0 {
		t.Error("a nil list is not the empty one")
	}
}

func TestSame(t *testing.T) {
	l := arrays()
	for i, a := range l {
		for k, b := range l {
			if space.Same(a, deep(b)) != (i == k) {
				t.Error(i, k)
			}
		}
	}
	for k, change := range []func(a *api.Array){
		func(a *api.Array) { a.Dims[0].Hi = 4 },
		func(a *api.Array) { a.Dims[0].Lo = -1 },
		func(a *api.Array) { a.Dims[1].Name = "w" },
		func(a *api.Array) { a.Attrs[0].Name = "w" },
		func(a *api.Array) { a.Attrs[0].Type = api.TRat },
		func(a *api.Array) { a.Attrs = append(a.Attrs, attr("w", 1)); a.Cells = nil },
		func(a *api.Array) { a.Cells[1].Vals[0] = num(8) },
		func(a *api.Array) { a.Cells[2].Vals[0] = none(2) },
		func(a *api.Array) { a.Cells[3].At[0] = 2 },
		func(a *api.Array) { a.Cells = a.Cells[:3] },
		func(a *api.Array) { a.Cells[3].At[0] = 4 },
	} {
		a := sample()
		change(&a)
		if space.Same(a, sample()) || space.Same(sample(), a) {
			t.Error(k)
		}
	}
	for k, x := range spoiledArrays() {
		if space.Same(x.a, x.a) {
			t.Error("the same, but not valid:", k)
		}
	}
	a, b := sample(), sample()
	a.Cells, b.Cells = nil, []api.Cell{}
	if !space.Same(a, b) {
		t.Error("no cells are not the same as none")
	}
}
