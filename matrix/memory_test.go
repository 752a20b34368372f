package matrix_test

import (
	"fmt"
	"slices"
	"testing"

	"tesseract/api"
	"tesseract/matrix"
)

// R5

// roomy returns a copy of a list with filled elements behind its end.
func roomy[E any](l []E, fill E) []E {
	out := make([]E, len(l), len(l)+3)
	copy(out, l)
	for k := len(l); k < cap(out); k++ {
		out[:cap(out)][k] = fill
	}
	return out
}

// spoil overwrites all elements of a list, also those behind its end.
func spoil[E any](l []E, with E) {
	l = l[:cap(l)]
	for k := range l {
		l[k] = with
	}
}

// behind is what is behind the ends of slices.
var behind = struct {
	dim  api.Dim
	attr api.Attr
	cell api.Cell
}{api.Dim{Name: "behind"}, api.Attr{Name: "behind"}, api.Cell{At: list(0, 0), Vals: []api.Val{num(77, 1)}}}

// roomyArray returns a copy of an array whose slices have filled elements behind their ends.
func roomyArray(a api.Array) api.Array {
	a = api.Array{Dims: roomy(a.Dims, behind.dim), Attrs: roomy(a.Attrs, behind.attr), Cells: roomy(a.Cells, behind.cell)}
	for k, c := range a.Cells {
		a.Cells[k] = api.Cell{At: roomy(c.At, -99), Vals: roomy(c.Vals, none(99))}
	}
	return a
}

// whole returns a string with all memory of an array, also behind the ends of its slices.
func whole(a api.Array) string {
	s := fmt.Sprint(a.Dims[:cap(a.Dims)], a.Attrs[:cap(a.Attrs)])
	for _, c := range a.Cells[:cap(a.Cells)] {
		s += fmt.Sprint(c.At[:cap(c.At)], c.Vals[:cap(c.Vals)])
	}
	return s
}

// spoilArray overwrites all memory of an array, and reports whether a cell changed together with an earlier one.
func spoilArray(a api.Array) bool {
	shared := false
	for k, c := range a.Cells {
		rest := fmt.Sprint(a.Cells[k+1:])
		spoil(c.At, -77)
		spoil(c.Vals, none(99))
		shared = shared || rest != fmt.Sprint(a.Cells[k+1:])
	}
	spoil(a.Dims, api.Dim{Name: "spoiled"})
	spoil(a.Attrs, api.Attr{})
	spoil(a.Cells, api.Cell{})
	return shared
}

// result is what a function returns.
type result struct {
	arrays []api.Array
	lists  [][]int
	steps  []matrix.Step
	rest   string
}

func (r result) text() string { return fmt.Sprint(r.arrays, r.lists, r.steps, r.rest) }

// spoil overwrites the memory of a result, part by part, and reports whether a part changed together with an earlier one.
func (r result) spoil() bool {
	shared := false
	for k, a := range r.arrays {
		rest := fmt.Sprint(r.arrays[k+1:], r.lists)
		shared = spoilArray(a) || shared || rest != fmt.Sprint(r.arrays[k+1:], r.lists)
	}
	for _, l := range r.lists {
		spoil(l, -77)
	}
	spoil(r.steps, matrix.Step{})
	return shared
}

// calls are calls of all functions with two matrices and an order.
func calls() map[string]func(a, b api.Array, order []int) result {
	return map[string]func(a, b api.Array, order []int) result{
		"Check": func(a, b api.Array, order []int) result { return result{rest: fmt.Sprint(matrix.Check(a))} },
		"Size": func(a, b api.Array, order []int) result {
			n, m, e := matrix.Size(a)
			return result{rest: fmt.Sprint(n, m, e)}
		},
		"Normal": func(a, b api.Array, order []int) result {
			x, e := matrix.Normal(a)
			return result{arrays: []api.Array{x}, rest: fmt.Sprint(e)}
		},
		"Mul": func(a, b api.Array, order []int) result {
			x, l, e := matrix.Mul(a, b, 2, 3)
			return result{arrays: []api.Array{x}, steps: l, rest: fmt.Sprint(e)}
		},
		"Factor": func(a, b api.Array, order []int) result {
			f, l, e := matrix.Factor(a, 2, 3)
			return result{arrays: []api.Array{f.Lower, f.Upper}, lists: [][]int{f.Perm}, steps: l, rest: fmt.Sprint(f.Det, e)}
		},
		"Solve": func(a, b api.Array, order []int) result {
			x, e := matrix.Solve(a, b)
			return result{arrays: []api.Array{x}, rest: fmt.Sprint(e)}
		},
		"Order": func(a, b api.Array, order []int) result {
			l, e := matrix.Order(a)
			return result{lists: [][]int{l}, rest: fmt.Sprint(e)}
		},
		"Fill": func(a, b api.Array, order []int) result {
			n, e := matrix.Fill(a, order)
			return result{rest: fmt.Sprint(n, e)}
		},
		"Ldl": func(a, b api.Array, order []int) result {
			l, d, e := matrix.Ldl(a, order)
			return result{arrays: []api.Array{l, d}, rest: fmt.Sprint(e)}
		},
		"Conjugate": func(a, b api.Array, order []int) result {
			x, n, e := matrix.Conjugate(a, b)
			return result{arrays: []api.Array{x}, rest: fmt.Sprint(n, e)}
		},
	}
}

func TestMemory(t *testing.T) {
	for _, x := range []struct {
		a, b  string
		order []int
	}{
		{"4 2 0; 2 3 1; 0 1 5", "1; 2; 1/3", list(2, 0, 1)}, {"0 2; 2 3", "1; 2", list(1, 0)}, {"1 2; 3 4", "1 2; 3 4", list(0, 1)},
		{"1 2 3; 4 5 6", "1; 2", list(0, 0)}, {"1 1; 1 1", "1; 1", list(0, 1)}, {"0 0; 0 0", "0; 0", list(0, 1)}, {"7", "0", list(0)},
	} {
		for name, call := range calls() {
			want := call(of(x.a), of(x.b), x.order).text()
			a, b, order := roomyArray(of(x.a)), roomyArray(of(x.b)), roomy(x.order, 0)
			wholeA, wholeB := whole(a), whole(b)
			r := call(a, b, order)
			if r.text() != want {
				t.Error(name, "reads behind the end of a slice:", r, "not", want)
			}
			if whole(a) != wholeA || whole(b) != wholeB || !slices.Equal(order[:cap(order)], roomy(x.order, 0)[:cap(order)]) {
				t.Error(name, "changes an argument")
			}
			spoilArray(a)
			spoilArray(b)
			spoil(order, -77)
			if r.text() != want {
				t.Error(name, "shares memory with an argument")
			}
			if r.spoil() {
				t.Error(name, "returns results that share memory")
			}
			if again := call(of(x.a), of(x.b), x.order).text(); again != want {
				t.Error(name, "shares memory with a result:", again, "not", want)
			}
		}
	}
}

// R9

func TestEqualCalls(t *testing.T) {
	d := dice(22)
	for range 10 {
		x, y := d.symmetric(9, d.small), d.table(9, 1, d.small)
		a, b, order := x.disguised(&d), y.disguised(&d), d.order(9)
		for name, call := range calls() {
			first := call(a, b, order).text()
			for range 3 {
				if again := call(a, b, order).text(); again != first {
					t.Fatal(name, again, "not", first)
				}
			}
		}
	}
}
