package matrix_test

import (
	"fmt"
	"math"
	"math/big"
	"testing"

	"tesseract/api"
	"tesseract/matrix"
)

// tiles returns how many tiles n rows, or columns, have.
func tiles(n, side int) int { return (n + side - 1) / side }

// expectProduct checks a product for one side and one memory.
func expectProduct(t *testing.T, x, y table, a, b api.Array, tile, memory int) {
	t.Helper()
	out, l, e := matrix.Mul(a, b, tile, memory)
	want := x.times(y)
	if !want.fits() {
		expectError(t, want, out, e, api.ErrOver)
		if len(l) > 0 {
			t.Fatal("steps together with an error")
		}
		return
	}
	expect(t, fmt.Sprint(x, " times ", y), out, e, want)
	disk, loads := replay(t, l, tile, memory, x, y, zeros(x.rows(), y.cols()))
	if !disk[2].same(want) {
		t.Fatalf("the disk has %v, not %v", disk[2], want)
	}
	r, k, c := tiles(x.rows(), tile), tiles(x.cols(), tile), tiles(y.cols(), tile)
	if loads > 2*r*k*c+r*c {
		t.Fatal(loads, "steps Load and Zero for", r, k, c)
	}
}

// P9.2

func TestMulExamples(t *testing.T) {
	a, v := of("1 2; 3 4"), of("1; 2")
	for _, tile := range natural(9)[1:] {
		expectProduct(t, read("1 2; 3 4"), read("1 2; 3 4"), a, a, tile, 3)
		out, _, e := matrix.Mul(a, a, tile, 3)
		expect(t, tile, out, e, read("7 10; 15 22"))
		out, _, e = matrix.Mul(a, v, tile, 4)
		expect(t, tile, out, e, read("5; 11"))
	}
}

func TestMulErrors(t *testing.T) {
	a, v, over := of("1 2; 3 4"), of("1; 2"), of("1099511627776")
	for room, want := range rooms() {
		for _, x := range [][2]api.Array{{a, v}, {over, over}} {
			out, l, e := matrix.Mul(x[0], x[1], room[0], room[1])
			expectError(t, room, out, e, want)
			if len(l) > 0 {
				t.Error(room, "steps")
			}
		}
		for _, x := range [][2]api.Array{{v, a}, {a, over}, {v, v}, {of("1 2 3"), of("1 2 3")}} {
			out, _, e := matrix.Mul(x[0], x[1], room[0], room[1])
			expectError(t, room, out, e, api.ErrShape)
		}
	}
	out, _, e := matrix.Mul(v, a, 8, 3)
	expectError(t, "V and A", out, e, api.ErrShape)
}

// Numbers that do not fit are refused, but only if they are entries of the product.
func TestMulAtLimits(t *testing.T) {
	for _, x := range [][2]string{
		{"1048576", "1048576"}, {"1048576", "1048577"}, {"-1099511627776", "1"}, {"1099511627776", "-1"}, {"1 1", "1099511627776; 1"}, {"1 1", "1099511627776; -1"},
		{"1099511627776 1 -1099511627776", "1099511627776; 7; 1099511627776"}, {"1/1099511627776", "1"}, {"1/1048576", "1/1048576"}, {"1/1048576", "1/1048577"},
		{"1099511627776", "1/1099511627776"}, {"1 1", "1/1099511627776; 1/1099511627775"}, {"1/3 1/5 1/3", "1/1099511627773; 2; -1/1099511627773"},
		{"1 0; 0 0", "1 0; 0 0"}, {"0 0; 1099511627776 0", "1 0; 0 1099511627776"}, {"0 0; 0 1099511627776", "1 0; 0 2"},
	} {
		for _, tile := range list(1, 2, 8) {
			expectProduct(t, read(x[0]), read(x[1]), of(x[0]), of(x[1]), tile, 3)
		}
	}
}

func TestMul(t *testing.T) {
	d := dice(2)
	for range 150 {
		n, m, k := d.size(), d.size(), d.size()
		entry := pick(&d, d.small, d.digit)
		if max(n, m, k) < 6 && d.from(0, 3) == 0 {
			entry = d.large
		}
		x, y := d.table(n, m, entry), d.table(m, k, entry)
		expectProduct(t, x, y, x.disguised(&d), y.disguised(&d), d.from(1, 8), pick(&d, 3, 3, 4, 5, 100, math.MaxInt))
	}
}

// All sides of tiles, for matrices of all sizes.
func TestMulOfAllSizes(t *testing.T) {
	d := dice(3)
	for n := 1; n <= matrix.MaxSize; n++ {
		for tile := 1; tile <= matrix.MaxTile; tile++ {
			m := matrix.MaxSize + 1 - n
			x, y := d.table(n, m, d.digit), d.table(m, d.from(1, 9), d.digit)
			expectProduct(t, x, y, x.array(), y.array(), tile, 3)
		}
	}
}

// P9.8

func TestProductsAreAssociative(t *testing.T) {
	d := dice(4)
	mul := func(a, b api.Array) api.Array {
		out, _, e := matrix.Mul(a, b, d.from(1, 8), d.from(3, 9))
		if e != api.OK {
			t.Fatal(e)
		}
		return out
	}
	for range 60 {
		n, m, k, l := d.from(1, 12), d.from(1, 12), d.from(1, 12), d.from(1, 12)
		x, y, z := d.table(n, m, d.digit).array(), d.table(m, k, d.digit).array(), d.table(k, l, d.digit).array()
		if !sameArray(mul(mul(x, y), z), mul(x, mul(y, z))) {
			t.Fatal(x, y, z)
		}
		if one := identity(n).disguised(&d); !sameArray(mul(one, x), x) {
			t.Fatal("one times", x)
		}
		if one := identity(m).disguised(&d); !sameArray(mul(x, one), x) {
			t.Fatal(x, "times one")
		}
	}
}

func TestProductsDoNotDependOnTiles(t *testing.T) {
	d := dice(5)
	for range 6 {
		x, y := d.table(d.from(9, 24), 17, d.small).array(), d.table(17, d.from(1, 24), d.small).array()
		first, _, e := matrix.Mul(x, y, 1, 3)
		for tile := 1; tile <= matrix.MaxTile; tile++ {
			for _, memory := range list(3, 4, 7, math.MaxInt) {
				out, _, f := matrix.Mul(x, y, tile, memory)
				if e != f || !sameArray(first, out) {
					t.Fatal(tile, memory, e, f)
				}
			}
		}
	}
}

// A number with any denominators is exact.
func TestMulIsExact(t *testing.T) {
	d := dice(6)
	for range 40 {
		n := d.from(2, 24)
		x, y := d.table(1, n, d.large), zeros(n, 1)
		for k := range n - 1 { // what is added for one column is subtracted again for the next one
			y[k][0] = rat(int64(k%2*2-1), 1)
			if k%2 == 1 {
				x[0][k] = x[0][k-1]
			}
		}
		if n%2 == 0 {
			y[n-2][0] = new(big.Rat)
		}
		y[n-1][0] = rat(1, 1)
		if !x.times(y).fits() {
			t.Fatal("no test", x, y)
		}
		expectProduct(t, x, y, x.array(), y.array(), d.from(1, 8), 3)
	}
}
