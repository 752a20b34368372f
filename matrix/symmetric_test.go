package matrix_test

import (
	"math"
	"math/big"
	"slices"
	"testing"

	"tesseract/api"
	"tesseract/matrix"
)

// star is a matrix whose node 0 has the neighbors 1, 2 and 3.
const star = "1 1 1 1; 1 1 0 0; 1 0 1 0; 1 0 0 1"

// expectNoLdl checks that Ldl returns an error, and nothing else.
func expectNoLdl(t *testing.T, a api.Array, order []int, want api.Errno) {
	t.Helper()
	l, d, e := matrix.Ldl(a, order)
	expectError(t, order, l, e, want)
	expectError(t, order, d, e, want)
}

// badOrders returns lists that are not orders of n.
func badOrders(n int) [][]int {
	l := natural(n)
	with := func(k, x int) []int {
		out := slices.Clone(l)
		out[k] = x
		return out
	}
	out := [][]int{l[:n-1], append(slices.Clone(l), n), append(slices.Clone(l), 0), with(0, n), with(n-1, -1), with(n-1, math.MinInt), with(0, math.MaxInt)}
	if n > 1 {
		out = append(out, nil, with(0, 1), with(n-1, 0), list(0))
	}
	return out
}

// P9.5

func TestOrderExamples(t *testing.T) {
	for s, want := range map[string][]int{
		star:                                 list(1, 2, 0, 3),
		"0":                                  list(0),
		"5 0 0; 0 5 0; 0 0 5":                list(0, 1, 2),
		"0 1 1; 1 0 1; 1 1 0":                list(0, 1, 2),
		"0 1/2 0; 1/2 0 1; 0 1 0":            list(0, 1, 2),
		"1 1 1 0; 1 1 1 0; 1 1 1 1; 0 0 1 1": list(3, 0, 1, 2),
		"1 1 0 0 1; 1 1 1 0 0; 0 1 1 1 0; 0 0 1 1 1; 1 0 0 1 1":                        list(0, 1, 2, 3, 4),
		"1 1 1 1 0 0; 1 1 0 0 1 0; 1 0 1 0 1 0; 1 0 0 1 0 1; 0 1 1 0 1 1; 0 0 0 1 1 1": list(1, 2, 0, 3, 4, 5),
	} {
		l, e := matrix.Order(of(s))
		if !slices.Equal(l, want) || e != api.OK {
			t.Error(s, l, e)
		}
	}
}

func TestFillExamples(t *testing.T) {
	for _, x := range []struct {
		s     string
		order []int
		want  int
	}{
		{star, list(1, 2, 0, 3), 0}, {star, list(0, 1, 2, 3), 3}, {star, list(1, 0, 2, 3), 1}, {star, list(3, 2, 1, 0), 0}, {"7", list(0), 0},
		{"0 1 0 1; 1 0 1 0; 0 1 0 1; 1 0 1 0", list(0, 1, 2, 3), 1}, {"0 1 0 1; 1 0 1 0; 0 1 0 1; 1 0 1 0", list(0, 2, 1, 3), 1},
	} {
		if n, e := matrix.Fill(of(x.s), x.order); n != x.want || e != api.OK {
			t.Error(x.s, x.order, n, e)
		}
	}
}

func TestOrderErrors(t *testing.T) {
	for s, want := range map[string]api.Errno{
		"1 2": api.ErrShape, "1; 1": api.ErrShape, "1 2 3; 3 2 1": api.ErrShape,
		"1 2; 3 4": api.ErrArg, "0 0 1; 0 0 0; 0 0 0": api.ErrArg, "0 1; -1 0": api.ErrArg, "1 1/2; 1/3 1": api.ErrArg, "1 0; 1099511627776 1": api.ErrArg,
		star: api.OK, "1 -1/2; -1/2 0": api.OK,
	} {
		a := of(s)
		if l, e := matrix.Order(a); e != want || (len(l) > 0) != (e == api.OK) {
			t.Error(s, l, e)
		}
		for _, order := range append(badOrders(4), badOrders(1)...) {
			refusal := want
			if want == api.OK {
				refusal = api.ErrArg
			}
			if len(order) == 2 {
				continue
			}
			if n, e := matrix.Fill(a, order); n != 0 || e != refusal {
				t.Error(s, order, n, e)
			}
			expectNoLdl(t, a, order, refusal)
		}
	}
	for n := 1; n <= matrix.MaxSize; n++ {
		for _, order := range badOrders(n) {
			if k, e := matrix.Fill(zeros(n, n).array(), order); k != 0 || e != api.ErrArg {
				t.Error(n, order, k, e)
			}
			expectNoLdl(t, identity(n).array(), order, api.ErrArg)
		}
	}
}

func TestOrderAndFill(t *testing.T) {
	d := dice(15)
	for range 400 {
		x := d.symmetric(d.size(), pick(&d, d.small, d.large))
		for range x.rows() { // fewer edges
			i, j := d.from(0, x.rows()-1), d.from(0, x.rows()-1)
			x[i][j], x[j][i] = new(big.Rat), new(big.Rat)
		}
		a := x.disguised(&d)
		l, e := matrix.Order(a)
		if !slices.Equal(l, specOrder(x)) || e != api.OK {
			t.Fatal(x, l, specOrder(x), e)
		}
		for _, order := range [][]int{l, natural(x.rows()), d.order(x.rows())} {
			if n, e := matrix.Fill(a, order); n != specFill(x, order) || e != api.OK {
				t.Fatal(x, order, n, e)
			}
		}
	}
}

// specLdl returns the symmetric factors of a matrix, or false if there are none.
func specLdl(x table) (l, d table, is bool) {
	n := x.rows()
	l, d = identity(n), zeros(n, n)
	for j := range n {
		for i := j; i < n; i++ {
			rest := x[i][j]
			for k := range j {
				rest = sub(rest, mul(d[k][k], mul(l[i][k], l[j][k])))
			}
			if i > j {
				l[i][j] = quo(rest, d[j][j])
			} else if d[j][j] = rest; rest.Sign() == 0 {
				return nil, nil, false
			}
		}
	}
	return l, d, true
}

// P9.6

func TestLdlExamples(t *testing.T) {
	for _, x := range []struct {
		s     string
		order []int
		l, d  string
	}{
		{"4 2; 2 3", list(0, 1), "1 0; 1/2 1", "4 0; 0 2"},
		{"4 2; 2 3", list(1, 0), "1 0; 2/3 1", "3 0; 0 8/3"},
		{"-1 1; 1 1", list(0, 1), "1 0; -1 1", "-1 0; 0 2"},
		{"0 1; 1 5", list(1, 0), "1 0; 1/5 1", "5 0; 0 -1/5"},
		{"-7/3", list(0), "1", "-7/3"},
		{"1 0 2; 0 3 0; 2 0 1", list(2, 1, 0), "1 0 0; 0 1 0; 2 0 1", "1 0 0; 0 3 0; 0 0 -3"},
	} {
		l, d, e := matrix.Ldl(of(x.s), x.order)
		expect(t, x.s, l, e, read(x.l))
		expect(t, x.s, d, e, read(x.d))
	}
	for s, want := range map[string]api.Errno{
		"0 1; 1 0": api.ErrSingular, "0": api.ErrSingular, "0 1; 1 5": api.ErrSingular,
		"1 1; 1 1":                                        api.ErrSingular, // only the last entry of D would be 0
		"1 1 0; 1 1 1; 0 1 0":                             api.ErrSingular, // there is an inverse
		"3 1 0; 1 5 0; 0 0 0":                             api.ErrSingular,
		"3 1/1099511627776; 1/1099511627776 1":            api.ErrOver,
		"1 1099511627776; 1099511627776 1":                api.ErrOver, // of an entry of D
		"3 1/1099511627776 0; 1/1099511627776 1 0; 0 0 0": api.ErrSingular,
	} {
		expectNoLdl(t, of(s), natural(read(s).rows()), want)
	}
}

func TestLdl(t *testing.T) {
	dice := dice(16)
	counts := map[api.Errno]int{}
	for range 500 {
		n := dice.size()
		x := dice.symmetric(n, pick(&dice, dice.small, dice.digit))
		if dice.from(0, 1) == 0 { // the factors fit
			lower, d := identity(n), zeros(n, n)
			for i := range n {
				d[i][i] = rat(int64(pick(&dice, -2, -1, 1, 2, 3, 3, 1, 1, 1, 5, 7, 1, 0)), 1)
				for j := range i {
					lower[i][j] = rat(int64(dice.from(-2, 2)), 2)
				}
			}
			x = lower.times(d).times(lower.transposed())
		}
		order := pick(&dice, natural(n), natural(n), dice.order(n))
		wantL, wantD, is := specLdl(x.inOrder(order))
		l, d, e := matrix.Ldl(x.disguised(&dice), order)
		switch {
		case !is:
			expectNoLdl(t, x.array(), order, api.ErrSingular)
		case !wantL.fits() || !wantD.fits():
			expectNoLdl(t, x.array(), order, api.ErrOver)
		default:
			expect(t, x, l, e, wantL)
			expect(t, x, d, e, wantD)
		}
		counts[e]++
	}
	if counts[api.OK] < 100 || counts[api.ErrSingular] < 50 || counts[api.ErrOver] < 20 {
		t.Error("too few of some", counts)
	}
}

// A matrix can be factored in an order if, and only if, all leading principal minors are other than 0; then the factors multiply to it.
func TestLdlByMinors(t *testing.T) {
	dice := dice(17)
	for range 300 {
		n := dice.from(1, 5)
		x, order := dice.symmetric(n, dice.small), dice.order(n)
		turned := x.inOrder(order)
		can := true
		for k := range n {
			can = can && minor(turned, k+1).Sign() != 0
		}
		l, d, e := matrix.Ldl(x.array(), order)
		if can != (e == api.OK) {
			t.Fatal(x, order, e)
		}
		if e != api.OK {
			continue
		}
		lower, diagonal := entries(l), entries(d)
		if !lower.times(diagonal).times(lower.transposed()).same(turned) {
			t.Fatal(x, order, l, d)
		}
	}
}

// P9.11

func TestSparse(t *testing.T) {
	dice := dice(18)
	count := 0
	for range 300 {
		n := dice.from(2, matrix.MaxSize)
		x := zeros(n, n)
		for i := range n {
			x[i][i] = rat(int64(dice.from(20, 30)), 1)
		}
		for range dice.from(0, n) {
			i, j := dice.from(0, n-1), dice.from(0, n-1)
			if i != j {
				x[i][j] = dice.digit()
				x[j][i] = x[i][j]
			}
		}
		a := x.array()
		least, _ := matrix.Order(a)
		for _, order := range [][]int{least, natural(n), dice.order(n)} {
			l, _, e := matrix.Ldl(a, order)
			if e != api.OK {
				continue
			}
			count++
			fill, _ := matrix.Fill(a, order)
			if below := len(l.Cells) - n; below > networkOf(x).edges()+fill {
				t.Fatal(x, order, below, fill)
			}
		}
	}
	if count < 200 {
		t.Error("only", count, "factors")
	}
}
