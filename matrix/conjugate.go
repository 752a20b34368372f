package matrix

import (
	"tesseract/api"
	"tesseract/exact"
)

// Conjugate returns the solution of a system of linear equations by conjugate gradients, and after how many steps.
func Conjugate(a, b api.Array) (api.Array, int, api.Errno) {
	x, y, e := entriesOfBoth(a, b)
	switch {
	case e != api.OK:
		return api.Array{}, 0, e
	case !x.isSquare() || y.rows != x.rows || y.cols != 1:
		return api.Array{}, 0, api.ErrShape
	case !x.isSymmetric():
		return api.Array{}, 0, api.ErrArg
	}
	solution, steps, definite := descended(x, y)
	if !definite {
		return api.Array{}, 0, api.ErrSingular
	}
	out, e := solution.normal()
	if e != api.OK {
		return api.Array{}, 0, e
	}
	return out, steps, api.OK
}

// descended returns the solution of a system and the number of steps, or false if a is not definite for b.
//
// All numbers are whole on the way, because fractions would need common divisors for each sum. To this end a and b are multiplied by
// the denominators of their entries; x and r are those of the chapter times unit, which is, after k steps, the determinant of the
// k by k matrix whose entry (i, j) is b^T A^(i+j+1) b; and p is a multiple of that of the chapter. All quotients are whole by Cramer's rule.
func descended(a, b numbers) (numbers, int, bool) {
	unitA, unitB := a.denominators(), b.denominators()
	a, b = a.times(unitA), b.times(unitB)
	x, r, p := zeros(b.rows, 1), b, b
	unit := whole(1)
	steps := 0
	for dot(r, r).Sign() != 0 {
		q := zeros(b.rows, 1)
		q.addProduct(a, p)
		next := quotient(dot(p, q), unit)
		if next.Sign() <= 0 {
			return numbers{}, 0, false
		}
		length := quotient(dot(r, p), unit)
		x = mixed(next, x, length, p, unit)
		r = mixed(next, r, exact.Sub(whole(0), length), q, unit)
		p = mixed(next, r, quotient(dot(r, r), length), p, length)
		unit = next
		steps++
	}
	return x.times(quotient(unitA, exact.Mul(unitB, unit))), steps, true
}

// denominators returns a multiple of the denominators of all entries.
func (x numbers) denominators() *exact.Rat {
	out := whole(1)
	for _, n := range x.elements {
		if !exact.Mul(out, n).Whole() {
			out = exact.Mul(out, whole(exact.Value(n).D))
		}
	}
	return out
}

// times returns the entries multiplied by a number.
func (x numbers) times(by *exact.Rat) numbers {
	return numbersOf(x.rows, x.cols, func(i, j int) *exact.Rat { return exact.Mul(x.at(i, j), by) })
}

// dot returns the sum of the products of the entries with the same index.
func dot(x, y numbers) *exact.Rat {
	sum := whole(0)
	for k, n := range x.elements {
		sum = exact.Add(sum, exact.Mul(n, y.elements[k]))
	}
	return sum
}

// mixed returns (f x + g y) / by.
func mixed(f *exact.Rat, x numbers, g *exact.Rat, y numbers, by *exact.Rat) numbers {
	return numbersOf(x.rows, x.cols, func(i, j int) *exact.Rat {
		return quotient(exact.Add(exact.Mul(f, x.at(i, j)), exact.Mul(g, y.at(i, j))), by)
	})
}
