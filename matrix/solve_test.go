package matrix_test

import (
	"math/big"
	"testing"

	"tesseract/api"
	"tesseract/matrix"
)

// solved returns the solution of a system by Cramer's rule, or false if there is none.
func solved(a, b table) (table, bool) {
	n := a.rows()
	det := minor(a, n)
	if det.Sign() == 0 {
		return nil, false
	}
	return tableOf(n, b.cols(), func(i, j int) *big.Rat {
		return quo(minor(tableOf(n, n, func(r, c int) *big.Rat {
			if c == i {
				return b[r][j]
			}
			return a[r][c]
		}), n), det)
	}), true
}

// P9.4

func TestSolveExamples(t *testing.T) {
	for _, x := range [][3]string{
		{"1 2; 3 4", "1; 2", "0; 1/2"},
		{"0 2; 1 0", "4 0 1; 3 5 0", "3 5 0; 2 0 1/2"},
		{"1/2", "0", "0"},
		{"0 0 1; 0 1 0; 1 0 0", "1 0 0; 0 1 0; 0 0 1", "0 0 1; 0 1 0; 1 0 0"},
		{"1 1; 1 2", "1099511627776; 1099511627776", "1099511627776; 0"},
		{"1099511627776 1099511627775; 1099511627775 1099511627774", "1; 1", "1; -1"}, // the determinant does not fit at all
	} {
		a, e := matrix.Solve(of(x[0]), of(x[1]))
		expect(t, x[0], a, e, read(x[2]))
	}
}

func TestSolveErrors(t *testing.T) {
	for _, x := range []struct {
		a, b string
		want api.Errno
	}{
		{"1 2; 2 4", "1; 2", api.ErrSingular},
		{"1 2; 2 4", "0; 0", api.ErrSingular},
		{"0", "1 2 3", api.ErrSingular},
		{"1/1099511627776 0 0; 0 1 1; 0 1 1", "1099511627776; 1; 1", api.ErrSingular}, // another entry would not fit
		{"0 1; 0 1099511627776", "1; 1/1099511627775", api.ErrSingular},
		{"1 2; 3 4", "1", api.ErrShape},
		{"1 2; 3 4", "1 2", api.ErrShape},
		{"1 2; 3 4", "1; 2; 3", api.ErrShape},
		{"1 2", "1", api.ErrShape},
		{"1; 2", "1; 2", api.ErrShape},
		{"0 0 0; 0 0 0", "1; 2", api.ErrShape},
		{"1/1099511627776", "1099511627776", api.ErrOver},
		{"1/2", "1099511627776", api.ErrOver},
		{"1 0; 0 3", "1 1; 1 1/1099511627776", api.ErrOver},
		{"3 0; 0 1", "1 1/1099511627776; 1 1", api.ErrOver},
		{"2 0; 1 1", "1099511627776; -1099511627776", api.ErrOver},
	} {
		a, e := matrix.Solve(of(x.a), of(x.b))
		expectError(t, x.a, a, e, x.want)
	}
}

func TestSolveSmall(t *testing.T) {
	d := dice(12)
	counts := map[api.Errno]int{}
	for range 1500 {
		n := d.from(1, 5)
		a, b := d.table(n, n, pick(&d, d.small, d.digit, d.large)), d.table(n, d.from(1, 4), pick(&d, d.small, d.large))
		out, e := matrix.Solve(a.disguised(&d), b.disguised(&d))
		want, is := solved(a, b)
		switch {
		case !is:
			expectError(t, a, out, e, api.ErrSingular)
		case !want.fits():
			expectError(t, a, out, e, api.ErrOver)
		default:
			expect(t, a, out, e, want)
		}
		counts[e]++
	}
	if counts[api.OK] < 100 || counts[api.ErrSingular] < 100 || counts[api.ErrOver] < 100 {
		t.Error("too few of some", counts)
	}
}

// Large systems: what Solve returns, multiplied again, is the right side. It is known whether there is a solution.
func TestSolveLarge(t *testing.T) {
	d := dice(13)
	for range 60 {
		n := d.from(6, matrix.MaxSize)
		a, x := d.table(n, n, pick(&d, d.digit, d.small)), d.table(n, d.size(), d.small)
		b := a.times(x)
		out, e := matrix.Solve(a.array(), b.array())
		if specFactors(a).det.Sign() == 0 {
			expectError(t, a, out, e, api.ErrSingular)
		} else {
			expect(t, a, out, e, x)
		}
		deficient := a.copied()
		deficient[n-1] = deficient.plus(rat(2, 1), deficient)[d.from(0, n-2)]
		out, e = matrix.Solve(deficient.array(), b.array())
		expectError(t, deficient, out, e, api.ErrSingular)
	}
}

// P9.10

func TestSolutionsMultiplied(t *testing.T) {
	d := dice(14)
	both := 0
	for range 300 {
		n := d.from(1, 7)
		a := pick(&d, d.symmetric(n, d.small), d.definite(n, d.from(1, n+1), d.small))
		b := pick(&d, d.table(n, 1, d.small), a.times(d.table(n, 1, d.digit)))
		x, e := matrix.Solve(a.array(), b.array())
		y, _, f := matrix.Conjugate(a.array(), b.array())
		for _, s := range []struct {
			x api.Array
			e api.Errno
		}{{x, e}, {y, f}} {
			if s.e == api.OK && !a.times(entries(s.x)).same(b) {
				t.Fatal(a, b, s.x)
			}
		}
		if e == api.OK && f == api.OK {
			both++
			if !sameArray(x, y) {
				t.Fatal(a, b, x, y)
			}
		}
	}
	if both < 50 {
		t.Error("only", both, "solutions of both")
	}
}
