package matrix

import (
	"slices"

	"tesseract/api"
	"tesseract/exact"
)

// numbers are the entries of a tile, or of a whole matrix.
type numbers struct{ grid[*exact.Rat] }

// whole returns a small integer.
func whole(n int64) *exact.Rat {
	x, _ := exact.Of(n, 1)
	return x
}

// quotient returns x / y, for a y that is not 0.
func quotient(x, y *exact.Rat) *exact.Rat {
	q, _ := exact.Quo(x, y)
	return q
}

// numbersOf returns the entries that a function returns.
func numbersOf(rows, cols int, entry func(i, j int) *exact.Rat) numbers {
	return numbers{gridOf(rows, cols, entry)}
}

// zeros returns entries that are all 0.
func zeros(rows, cols int) numbers {
	zero := whole(0)
	return numbersOf(rows, cols, func(i, j int) *exact.Rat { return zero })
}

// entries returns those of a matrix, or the error of Check.
func entries(a api.Array) (numbers, api.Errno) {
	if e := Check(a); e != api.OK {
		return numbers{}, e
	}
	x := zeros(a.Dims[0].Hi+1, a.Dims[1].Hi+1)
	for _, c := range a.Cells {
		n, _ := exact.Number(c.Vals[0])
		x.set(c.At[0], c.At[1], n)
	}
	return x, api.OK
}

// entriesOfBoth returns the entries of two matrices, or the first error of Check.
func entriesOfBoth(a, b api.Array) (x, y numbers, e api.Errno) {
	if x, e = entries(a); e != api.OK {
		return numbers{}, numbers{}, e
	}
	if y, e = entries(b); e != api.OK {
		return numbers{}, numbers{}, e
	}
	return x, y, api.OK
}

// normal returns the matrix in normal form that has these entries, or ErrOver.
func (x numbers) normal() (api.Array, api.Errno) {
	a := api.Array{
		Dims:  []api.Dim{{Name: "row", Lo: 0, Hi: x.rows - 1}, {Name: "col", Lo: 0, Hi: x.cols - 1}},
		Attrs: []api.Attr{{Name: "v", Type: api.TRat}},
	}
	for k, n := range x.elements {
		v := exact.Value(n)
		if v.Kind == api.KMissing {
			return api.Array{}, api.ErrOver
		}
		if v.N != 0 {
			a.Cells = append(a.Cells, api.Cell{At: []int{k / x.cols, k % x.cols}, Vals: []api.Val{v}})
		}
	}
	return a, api.OK
}

// normalOfBoth returns two matrices in normal form, or ErrOver.
func normalOfBoth(x, y numbers) (a, b api.Array, e api.Errno) {
	if a, e = x.normal(); e != api.OK {
		return api.Array{}, api.Array{}, e
	}
	if b, e = y.normal(); e != api.OK {
		return api.Array{}, api.Array{}, e
	}
	return a, b, api.OK
}

// copied returns the entries in new memory.
func (x numbers) copied() numbers {
	x.elements = slices.Clone(x.elements)
	return x
}

// isSquare reports whether there are as many columns as rows.
func (x numbers) isSquare() bool { return x.rows == x.cols }

// isSymmetric reports whether the entries of a square matrix do not change if rows and columns are exchanged.
func (x numbers) isSymmetric() bool {
	for i := range x.rows {
		for j := range i {
			if exact.Cmp(x.at(i, j), x.at(j, i)) != 0 {
				return false
			}
		}
	}
	return true
}

// chosen returns the matrix with those entries of x that are chosen by their place, and 0 elsewhere.
func (x numbers) chosen(by func(i, j int) bool) numbers {
	zero := whole(0)
	return numbersOf(x.rows, x.cols, func(i, j int) *exact.Rat {
		if by(i, j) {
			return x.at(i, j)
		}
		return zero
	})
}

// lower returns the entries below the diagonal, with 1 on it.
func (x numbers) lower() numbers {
	out := x.chosen(func(i, j int) bool { return i > j })
	for i := range x.rows {
		out.set(i, i, whole(1))
	}
	return out
}

// upper returns the entries on the diagonal and above it.
func (x numbers) upper() numbers { return x.chosen(func(i, j int) bool { return i <= j }) }

// diagonal returns the entries on the diagonal.
func (x numbers) diagonal() numbers { return x.chosen(func(i, j int) bool { return i == j }) }

// addProduct adds the product of x and y to z.
func (z numbers) addProduct(x, y numbers) {
	for i := range z.rows {
		for j := range z.cols {
			for k := range x.cols {
				z.set(i, j, exact.Add(z.at(i, j), exact.Mul(x.at(i, k), y.at(k, j))))
			}
		}
	}
}

// exchange exchanges the row p of x and the row q of y, which may be the same one.
func (x numbers) exchange(p int, y numbers, q int) {
	for j := range x.cols {
		a, b := x.at(p, j), y.at(q, j)
		x.set(p, j, b)
		y.set(q, j, a)
	}
}

// divideColumn divides the entries of a column, from a row on, by a number that is not 0.
func (x numbers) divideColumn(column, row int, by *exact.Rat) {
	for i := row; i < x.rows; i++ {
		x.set(i, column, quotient(x.at(i, column), by))
	}
}

// subtractRow subtracts from each entry (i, j) of x, from a row and a column on, the product of the entries (i, p) of left and (p, j) of upper.
func (x numbers) subtractRow(row, column int, left, upper numbers, p int) {
	for i := row; i < x.rows; i++ {
		for j := column; j < x.cols; j++ {
			x.set(i, j, exact.Sub(x.at(i, j), exact.Mul(left.at(i, p), upper.at(p, j))))
		}
	}
}

// eliminate subtracts multiples of the row p from the rows behind it, such that their entries in the column p become 0; the multipliers are kept there instead.
// The entry (p, p) is not 0.
func (x numbers) eliminate(p int) {
	x.divideColumn(p, p+1, x.at(p, p))
	x.subtractRow(p+1, p+1, x, x, p)
}
