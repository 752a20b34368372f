package matrix_test

import (
	"math"
	"math/big"
	"slices"
	"testing"

	"tesseract/api"
	"tesseract/matrix"
)

// expectNoFactors checks that Factor returns an error, and nothing else.
func expectNoFactors(t *testing.T, a api.Array, tile, memory int, want api.Errno) {
	t.Helper()
	f, l, e := matrix.Factor(a, tile, memory)
	if e != want || len(f.Perm)+len(l) > 0 || !isEmpty(f.Lower) || !isEmpty(f.Upper) || f.Det != (api.Val{}) {
		t.Fatal(f, len(l), e, "not", want)
	}
}

// expectFactors checks the factors of a matrix for one side and one memory.
func expectFactors(t *testing.T, x table, a api.Array, tile, memory int) {
	t.Helper()
	want := specFactors(x)
	if !want.lower.fits() || !want.upper.fits() {
		expectNoFactors(t, a, tile, memory, api.ErrOver)
		return
	}
	f, l, e := matrix.Factor(a, tile, memory)
	expect(t, x, f.Lower, e, want.lower)
	expect(t, x, f.Upper, e, want.upper)
	if !slices.Equal(f.Perm, want.perm) || f.Det != detOf(want.det) {
		t.Fatal(x, f.Perm, want.perm, f.Det, want.det)
	}
	disk, loads := replay(t, l, tile, memory, x)
	if !disk[0].same(want.both()) {
		t.Fatalf("the disk has %v, not %v", disk[0], want.both())
	}
	if n := tiles(x.rows(), tile); loads > 4*x.rows()*n*(n+1) {
		t.Fatal(loads, "steps Load and Zero for", x.rows(), n)
	}
}

// P9.3

func TestFactorExamples(t *testing.T) {
	for s, want := range map[string]struct {
		perm         []int
		lower, upper string
		det          api.Val
	}{
		"1 2; 3 4":            {list(1, 0), "1 0; 1/3 1", "3 4; 0 2/3", num(-2, 1)},
		"0 0; 0 5":            {list(0, 1), "1 0; 0 1", "0 0; 0 5", num(0, 1)},
		"7":                   {list(0), "1", "7", num(7, 1)},
		"0":                   {list(0), "1", "0", num(0, 1)},
		"-1 2; 1 3":           {list(0, 1), "1 0; -1 1", "-1 2; 0 5", num(-5, 1)}, // of equal absolute values, that at the least place
		"1 1 1; 2 2 5; 4 6 8": {list(2, 1, 0), "1 0 0; 1/2 1 0; 1/4 1/2 1", "4 6 8; 0 -1 1; 0 0 -3/2", num(-6, 1)},
		"0 1 2; 0 3 4; 0 5 6": {list(0, 2, 1), "1 0 0; 0 1 0; 0 3/5 1", "0 1 2; 0 5 6; 0 0 2/5", num(0, 1)},
		"0 1 0; 0 0 1; 1 0 0": {list(2, 0, 1), "1 0 0; 0 1 0; 0 0 1", "1 0 0; 0 1 0; 0 0 1", num(1, 1)},
		"1/2 1; 1/3 1/5":      {list(0, 1), "1 0; 2/3 1", "1/2 1; 0 -7/15", num(-7, 30)},
	} {
		for _, tile := range natural(9)[1:] {
			f, _, e := matrix.Factor(of(s), tile, 3)
			expect(t, s, f.Lower, e, read(want.lower))
			expect(t, s, f.Upper, e, read(want.upper))
			if !slices.Equal(f.Perm, want.perm) || f.Det != want.det {
				t.Error(s, f.Perm, f.Det)
			}
			expectFactors(t, read(s), of(s), tile, 3)
		}
	}
}

func TestFactorErrors(t *testing.T) {
	over := of("3 1; 1099511627776 1099511627775") // its factors do not fit
	for room, want := range rooms() {
		expectNoFactors(t, of("1 2; 3 4"), room[0], room[1], want)
		expectNoFactors(t, over, room[0], room[1], want)
		expectNoFactors(t, of("1 2 3; 4 5 6"), room[0], room[1], api.ErrShape)
		expectNoFactors(t, of("1; 2"), room[0], room[1], api.ErrShape)
	}
	expectNoFactors(t, over, 1, 3, api.ErrOver)
	expectNoFactors(t, zeros(23, 24).array(), 8, 100, api.ErrShape)
}

// Numbers that do not fit are refused if they are entries of the factors; a determinant that does not fit is missing.
func TestFactorAtLimits(t *testing.T) {
	for k, x := range []struct {
		s    string
		over bool
		det  api.Val
	}{
		{"1099511627776", false, num(most, 1)},
		{"1048576 0; 0 1048576", false, num(most, 1)},
		{"1048577 0; 0 1048576", false, none(api.Over)},
		{"1/1048577 0; 0 1/1048576", false, none(api.Over)},
		{"1099511627776 0; 0 -1099511627776", false, none(api.Over)},
		{"1099511627776 0 0; 0 1099511627776 0; 0 0 0", false, num(0, 1)},
		{"1099511627776 0 0; 0 1099511627776 0; 0 0 1/1099511627776", false, num(most, 1)},
		{"1099511627776 0; 1 1", false, num(most, 1)},  // the multiplier is 1 / MaxNum
		{"1099511627776 0; 1/3 1", true, api.Val{}},    // the multiplier does not fit
		{"1 1099511627776; 1 -1", true, api.Val{}},     // an entry of Upper does not fit: -1 - MaxNum
		{"1 1099511627776; 1 0", false, num(-most, 1)}, // it fits
		{"1 1/1099511627776; 1 1/1099511627775", true, api.Val{}},
		{"3 1 0; 1 1/1099511627776 0; 0 0 1", true, api.Val{}},
	} {
		for _, tile := range list(1, 2, 8) {
			if x.over {
				expectNoFactors(t, of(x.s), tile, 3, api.ErrOver)
			} else if f, _, e := matrix.Factor(of(x.s), tile, 3); e != api.OK || f.Det != x.det {
				t.Error(k, e, f.Det)
			}
			expectFactors(t, read(x.s), of(x.s), tile, 3)
		}
	}
}

// tame returns a matrix whose factors fit: the product of a lower triangular matrix with small fractions and an upper triangular one, of which a share of the rows are 0, its rows in any order.
func (d *dice) tame(n int) table {
	lower, upper := identity(n), zeros(n, n)
	zero := pick(d, 0, 0, 0, 1, 4)
	for i := range n {
		for j := range i {
			lower[i][j] = rat(int64(d.from(-4, 4)), 4)
		}
		for j := i; j < n && d.from(1, 10) > zero; j++ {
			upper[i][j] = d.digit()
		}
	}
	x := lower.times(upper)
	order := d.order(n)
	return tableOf(n, n, func(i, j int) *big.Rat { return x[order[i]][j] })
}

func TestFactor(t *testing.T) {
	d := dice(7)
	fit := 0
	for range 250 {
		n := d.size()
		x := d.tame(n)
		if d.from(0, 2) == 0 {
			x = d.table(n, n, pick(&d, d.small, d.digit, d.large))
		}
		if !x.fits() {
			t.Fatal("no test", x)
		}
		if f := specFactors(x); f.lower.fits() && f.upper.fits() && n > 6 {
			fit++
		}
		expectFactors(t, x, x.disguised(&d), d.from(1, 8), pick(&d, 3, 3, 4, 9, math.MaxInt))
	}
	if fit < 50 {
		t.Error("only", fit, "large matrices with factors")
	}
}

// All sides of tiles, for matrices of all sizes, with as many exchanges as there can be.
func TestFactorOfAllSizes(t *testing.T) {
	d := dice(8)
	for n := 1; n <= matrix.MaxSize; n++ {
		order := d.order(n)
		for tile := 1; tile <= matrix.MaxTile; tile++ {
			x := tableOf(n, n, func(i, j int) *big.Rat { return rat(int64(1+min(order[i], j)), 1) })
			expectFactors(t, x, x.array(), tile, 3)
			turned := tableOf(n, n, func(i, j int) *big.Rat { return identity(n)[i][(j+1)%n] })
			expectFactors(t, turned, turned.array(), tile, 3)
		}
	}
}

// P9.8

func TestFactorsDoNotDependOnTiles(t *testing.T) {
	d := dice(9)
	for range 8 {
		x := d.tame(d.from(5, 20)).array()
		first, _, e := matrix.Factor(x, 1, 3)
		for tile := 1; tile <= matrix.MaxTile; tile++ {
			for _, memory := range list(3, 4, 7, math.MaxInt) {
				f, _, g := matrix.Factor(x, tile, memory)
				if e != g || !slices.Equal(f.Perm, first.Perm) || f.Det != first.Det || !sameArray(f.Lower, first.Lower) || !sameArray(f.Upper, first.Upper) {
					t.Fatal(tile, memory, e, g)
				}
			}
		}
	}
}

// P9.9

func TestFactorsMultiplied(t *testing.T) {
	d := dice(10)
	count := 0
	for range 200 {
		n := d.from(1, 10)
		x := d.tame(n)
		f, _, e := matrix.Factor(x.array(), d.from(1, 8), 3)
		if e != api.OK {
			continue
		}
		count++
		want := tableOf(n, n, func(i, j int) *big.Rat { return x[f.Perm[i]][j] })
		out, _, e := matrix.Mul(f.Lower, f.Upper, d.from(1, 8), 3)
		expect(t, x, out, e, want)
		for _, row := range entries(f.Lower) {
			for _, m := range row {
				if new(big.Rat).Abs(m).Cmp(rat(1, 1)) > 0 {
					t.Fatal("an entry above 1", f.Lower)
				}
			}
		}
	}
	if count < 100 {
		t.Error("only", count, "matrices with factors")
	}
}

func TestDeterminants(t *testing.T) {
	d := dice(11)
	det := func(x table) (api.Val, bool) {
		f, _, e := matrix.Factor(x.array(), d.from(1, 8), 3)
		return f.Det, e == api.OK && f.Det.Kind == api.KNum
	}
	count := 0
	for range 300 {
		n := d.from(1, 6)
		x, y := d.table(n, n, d.small), d.table(n, n, d.small)
		a, is := det(x)
		if !is {
			continue
		}
		if a != detOf(minor(x, n)) {
			t.Fatal(x, a, minor(x, n))
		}
		b, is := det(y)
		c, also := det(x.times(y))
		if is && also {
			count++
			if c != detOf(mul(rat(a.N, a.D), rat(b.N, b.D))) {
				t.Fatal(x, y, a, b, c)
			}
		}
	}
	if count < 100 {
		t.Error("only", count, "products")
	}
}
