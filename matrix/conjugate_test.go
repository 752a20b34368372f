package matrix_test

import (
	"math/big"
	"testing"

	"tesseract/api"
	"tesseract/matrix"
)

// P9.7

func TestConjugateExamples(t *testing.T) {
	for _, x := range []struct {
		a, b, want string
		steps      int
	}{
		{"4 2; 2 3", "1; 2", "-1/8; 3/4", 2},
		{"4 2; 2 3", "0; 0", "0; 0", 0},
		{"0", "0", "0", 0},
		{"0 1; 1 0", "0; 0", "0; 0", 0},
		{"2 0; 0 2", "1; 2", "1/2; 1", 1},
		{"5", "7", "7/5", 1},
		{"1/3", "1/2", "3/2", 1},
		{"1 0; 0 0", "7; 0", "7; 0", 1},     // semidefinite
		{"1 1; 1 1", "3; 3", "3/2; 3/2", 1}, // one of many solutions
		{"1 0; 0 -1", "7; 0", "7; 0", 1},    // definite for b alone
		{"0 1; 1 0", "1; 1", "1; 1", 1},     // d is 2
		{"1 0 0; 0 2 0; 0 0 3", "1; 1; 1", "1; 1/2; 1/3", 3},
		{"1 0 0; 0 2 0; 0 0 1", "1; 1; 1", "1; 1/2; 1", 2},
		{"1 0 0; 0 2 0; 0 0 3", "1; 0; 1", "1; 0; 1/3", 2},
		{"1/1099511627776 0; 0 1", "1; 1", "1099511627776; 1", 2},
		{"1099511627776 0; 0 1/1099511627775", "1099511627776; 1/1099511627775", "1; 1", 2},
	} {
		a, n, e := matrix.Conjugate(of(x.a), of(x.b))
		expect(t, x.a, a, e, read(x.want))
		if n != x.steps {
			t.Error(x.a, x.b, n)
		}
	}
}

func TestConjugateErrors(t *testing.T) {
	for _, x := range []struct {
		a, b string
		want api.Errno
	}{
		{"1 2 3; 4 5 6", "1; 2", api.ErrShape},
		{"1; 2", "1", api.ErrShape},
		{"1 2; 3 4", "1", api.ErrShape},
		{"1 2; 3 4", "1; 2; 3", api.ErrShape},
		{"1 2; 3 4", "1 2; 3 4", api.ErrShape},
		{"4 2; 2 3", "1 1; 2 2", api.ErrShape},
		{"4 2; 2 3", "1 2", api.ErrShape},
		{"1 2; 3 4", "1; 2", api.ErrArg},
		{"1 2; 3 4", "0; 0", api.ErrArg},
		{"0 1; -1 0", "1099511627776; 1", api.ErrArg},
		{"0 1; 1 0", "1; 2", api.ErrSingular},
		{"-1", "1", api.ErrSingular},
		{"0", "1", api.ErrSingular},
		{"1 1; 1 1", "1; 0", api.ErrSingular}, // d is 0 in the second step
		{"1 0; 0 0", "0; 7", api.ErrSingular}, // d is 0 at once
		{"1 0; 0 -1", "0; 1/1099511627776", api.ErrSingular},
		{"1/1099511627776 0; 0 -1", "1099511627776; 1", api.ErrSingular}, // the solution would not fit either
		{"1 0 0; 0 2 0; 0 0 -1", "9; 9; 1", api.ErrSingular},
		{"1/1099511627776", "1099511627776", api.ErrOver},
		{"3 0; 0 1", "1/1099511627776; 1", api.ErrOver},
		{"1/2 0; 0 1", "1099511627776; 0", api.ErrOver},
	} {
		a, n, e := matrix.Conjugate(of(x.a), of(x.b))
		expectError(t, x.a, a, e, x.want)
		if n != 0 {
			t.Error(x.a, n)
		}
	}
}

// expectConjugate compares what Conjugate returns with the words of the chapter.
func expectConjugate(t *testing.T, a, b table, d *dice) api.Errno {
	t.Helper()
	x, n, e := matrix.Conjugate(a.disguised(d), b.disguised(d))
	want, steps, is := specConjugate(a, b)
	switch {
	case !is:
		expectError(t, a, x, e, api.ErrSingular)
	case !want.fits():
		expectError(t, a, x, e, api.ErrOver)
	default:
		expect(t, a, x, e, want)
	}
	if e != api.OK && n != 0 || e == api.OK && (n != steps || n > a.rows()) {
		t.Fatal(a, b, n, "steps, not", steps)
	}
	return e
}

func TestConjugate(t *testing.T) {
	d := dice(19)
	counts := map[api.Errno]int{}
	for range 600 {
		n := d.from(1, 8)
		a := d.symmetric(n, d.small)
		switch d.from(0, 3) {
		case 0:
			a = d.definite(n, n, d.digit)
		case 1, 2:
			a = d.definite(n, d.from(1, n+2), d.small)
		}
		b := pick(&d, d.table(n, 1, d.small), d.table(n, 1, d.large), a.times(d.table(n, 1, d.digit)), a.times(d.table(n, 1, d.small)))
		counts[expectConjugate(t, a, b, &d)]++
	}
	if counts[api.OK] < 100 || counts[api.ErrSingular] < 100 || counts[api.ErrOver] < 20 {
		t.Error("too few of some", counts)
	}
}

// Numbers at the limits of values, with denominators of their own.
func TestConjugateOfLargeNumbers(t *testing.T) {
	d := dice(20)
	for range 60 {
		n := d.from(1, 3)
		a := d.symmetric(n, d.large)
		for k := range n {
			a[k][k] = rat(most-int64(k), 1)
		}
		expectConjugate(t, a, d.table(n, 1, d.large), &d)
	}
}

// The largest matrices: of as many different eigenvalues as there are steps.
func TestConjugateOfLargestMatrices(t *testing.T) {
	d := dice(21)
	n := matrix.MaxSize
	for steps := 1; steps <= n; steps++ {
		a, x := zeros(n, n), zeros(n, 1)
		for k := range n {
			a[k][k] = rat(int64(1+k%steps), int64(1+steps%3))
			x[k][0] = rat(int64(1+d.from(0, 9)), 1)
		}
		out, k, e := matrix.Conjugate(a.array(), a.times(x).array())
		expect(t, steps, out, e, x)
		if k != steps {
			t.Error(k, "steps, not", steps)
		}
	}
	path := tableOf(n, n, func(i, j int) *big.Rat {
		return rat(map[int]int64{0: 2, 1: -1, -1: -1}[i-j], 1)
	})
	first := identity(n).transposed()[:1].transposed()
	out, k, e := matrix.Conjugate(path.array(), first.array())
	expect(t, "a path", out, e, tableOf(n, 1, func(i, j int) *big.Rat { return rat(int64(n-i), int64(n+1)) }))
	if k != n {
		t.Error(k, "steps")
	}
	for range 10 {
		a, x := d.definite(n, n, d.digit), d.table(n, 1, d.digit)
		out, _, e := matrix.Conjugate(a.array(), a.times(x).array())
		if e != api.OK && specFactors(a).det.Sign() != 0 {
			t.Fatal("error", e)
		}
		if e == api.OK && !a.times(entries(out)).same(a.times(x)) {
			t.Fatal(a, x, out)
		}
	}
}
