package matrix

import (
	"tesseract/api"
	"tesseract/exact"
)

// Solve returns the solution of a system of linear equations.
func Solve(a, b api.Array) (api.Array, api.Errno) {
	x, y, e := entriesOfBoth(a, b)
	if e != api.OK {
		return api.Array{}, e
	}
	if !x.isSquare() || y.rows != x.rows {
		return api.Array{}, api.ErrShape
	}
	both := numbersOf(x.rows, x.cols+y.cols, func(i, j int) *exact.Rat {
		if j < x.cols {
			return x.at(i, j)
		}
		return y.at(i, j-x.cols)
	})
	if !both.triangulate() {
		return api.Array{}, api.ErrSingular
	}
	solution, e := both.substituted()
	if e != api.OK {
		return api.Array{}, e
	}
	return solution.normal()
}

// triangulate eliminates as many columns as there are rows, and reports whether that is possible.
func (x numbers) triangulate() bool {
	for p := range x.rows {
		q := p
		for q < x.rows && x.at(q, p).Sign() == 0 {
			q++
		}
		if q == x.rows {
			return false
		}
		x.exchange(p, x, q)
		x.eliminate(p)
	}
	return true
}

// substituted returns the solution of a triangulated system, whose right side is in the columns behind the square of the first ones.
// It returns ErrOver as soon as a number does not fit, because the next ones would be computed from it, and would be longer still.
func (x numbers) substituted() (numbers, api.Errno) {
	out := zeros(x.rows, x.cols-x.rows)
	for i := x.rows - 1; i >= 0; i-- {
		for j := range out.cols {
			rest := x.at(i, x.rows+j)
			for k := i + 1; k < x.rows; k++ {
				rest = exact.Sub(rest, exact.Mul(x.at(i, k), out.at(k, j)))
			}
			n := quotient(rest, x.at(i, i))
			if exact.Value(n).Kind == api.KMissing {
				return numbers{}, api.ErrOver
			}
			out.set(i, j, n)
		}
	}
	return out, api.OK
}
