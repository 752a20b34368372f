package matrix_test

import (
	"math/big"
	"slices"
	"strconv"
	"strings"
	"testing"

	"tesseract/api"
	"tesseract/matrix"
	"tesseract/space"
)

const most = api.MaxNum

// dice makes numbers that look random, the same ones in each run.
type dice uint64

func (d *dice) next() uint64 {
	*d = *d*6364136223846793005 + 1442695040888963407
	x := uint64(*d)
	return x ^ x>>29
}

// from returns a number from lo to hi.
func (d *dice) from(lo, hi int) int { return lo + int(d.next()%uint64(hi-lo+1)) }

// pick returns one of the elements of a list.
func pick[E any](d *dice, l ...E) E { return l[d.from(0, len(l)-1)] }

// order returns an order of n.
func (d *dice) order(n int) []int {
	l := natural(n)
	for k := range l {
		i := d.from(0, k)
		l[k], l[i] = l[i], l[k]
	}
	return l
}

// natural returns the numbers from 0 to n - 1.
func natural(n int) []int {
	var l []int
	for k := range n {
		l = append(l, k)
	}
	return l
}

func num(n, d int64) api.Val    { return api.Val{Kind: api.KNum, N: n, D: d} }
func none(reason int64) api.Val { return api.Val{Kind: api.KMissing, N: reason} }
func list(l ...int) []int       { return l }

// rat returns a number, which is not changed by any function here.
func rat(n, d int64) *big.Rat { return big.NewRat(n, d) }

func add(x, y *big.Rat) *big.Rat { return new(big.Rat).Add(x, y) }
func sub(x, y *big.Rat) *big.Rat { return new(big.Rat).Sub(x, y) }
func mul(x, y *big.Rat) *big.Rat { return new(big.Rat).Mul(x, y) }
func quo(x, y *big.Rat) *big.Rat { return new(big.Rat).Quo(x, y) }

// table has the entries of a matrix.
type table [][]*big.Rat

func (x table) rows() int { return len(x) }
func (x table) cols() int { return len(x[0]) }

// tableOf returns the table of which a function returns the entries.
func tableOf(rows, cols int, entry func(i, j int) *big.Rat) table {
	out := make(table, rows)
	for i := range out {
		for j := range cols {
			out[i] = append(out[i], entry(i, j))
		}
	}
	return out
}

func zeros(rows, cols int) table {
	return tableOf(rows, cols, func(i, j int) *big.Rat { return new(big.Rat) })
}

func identity(n int) table {
	return tableOf(n, n, func(i, j int) *big.Rat {
		if i == j {
			return rat(1, 1)
		}
		return new(big.Rat)
	})
}

func (x table) copied() table {
	return tableOf(x.rows(), x.cols(), func(i, j int) *big.Rat { return x[i][j] })
}

func (x table) transposed() table {
	return tableOf(x.cols(), x.rows(), func(i, j int) *big.Rat { return x[j][i] })
}

func (x table) times(y table) table {
	return tableOf(x.rows(), y.cols(), func(i, j int) *big.Rat {
		sum := new(big.Rat)
		for k := range y {
			sum = add(sum, mul(x[i][k], y[k][j]))
		}
		return sum
	})
}

func (x table) plus(by *big.Rat, y table) table {
	return tableOf(x.rows(), x.cols(), func(i, j int) *big.Rat { return add(x[i][j], mul(by, y[i][j])) })
}

// inOrder returns the entries (order[i], order[j]).
func (x table) inOrder(order []int) table {
	return tableOf(x.rows(), x.cols(), func(i, j int) *big.Rat { return x[order[i]][order[j]] })
}

func (x table) same(y table) bool {
	return slices.EqualFunc(x, y, func(a, b []*big.Rat) bool {
		return slices.EqualFunc(a, b, func(a, b *big.Rat) bool { return a.Cmp(b) == 0 })
	})
}

func (x table) String() string {
	var rows []string
	for _, row := range x {
		var l []string
		for _, n := range row {
			l = append(l, n.RatString())
		}
		rows = append(rows, strings.Join(l, " "))
	}
	return strings.Join(rows, "; ")
}

// read returns the table of a string such as `1 2; 3 1/2`.
func read(s string) table {
	var out table
	for row := range strings.SplitSeq(s, ";") {
		var l []*big.Rat
		for x := range strings.FieldsSeq(row) {
			n, is := new(big.Rat).SetString(x)
			if !is {
				panic("not a number: " + x)
			}
			l = append(l, n)
		}
		out = append(out, l)
	}
	return out
}

// value returns a number as a value, and whether it fits.
func value(x *big.Rat) (api.Val, bool) {
	limit := big.NewInt(most)
	if x.Num().CmpAbs(limit) > 0 || x.Denom().Cmp(limit) > 0 {
		return none(api.Over), false
	}
	return num(x.Num().Int64(), x.Denom().Int64()), true
}

// fits reports whether all entries are values that are not missing.
func (x table) fits() bool {
	for _, row := range x {
		for _, n := range row {
			if _, is := value(n); !is {
				return false
			}
		}
	}
	return true
}

// array returns the normal form.
func (x table) array() api.Array {
	a := api.Array{Dims: []api.Dim{{Name: "row", Hi: x.rows() - 1}, {Name: "col", Hi: x.cols() - 1}}, Attrs: []api.Attr{{Name: "v", Type: api.TRat}}}
	for i, row := range x {
		for j, n := range row {
			v, is := value(n)
			if !is {
				panic("does not fit: " + n.RatString())
			}
			if n.Sign() != 0 {
				a.Cells = append(a.Cells, api.Cell{At: list(i, j), Vals: []api.Val{v}})
			}
		}
	}
	return a
}

// disguised returns a matrix with the same entries that is not in normal form: names and perhaps the type are others, and some zeros have cells.
func (x table) disguised(d *dice) api.Array {
	a := x.array()
	a.Dims[0].Name, a.Dims[1].Name, a.Attrs[0].Name = "col", pick(d, "v", "y1_"), "row"
	if !slices.ContainsFunc(a.Cells, func(c api.Cell) bool { return c.Vals[0].D != 1 }) {
		a.Attrs[0].Type = api.TInt
	}
	for i := range x.rows() {
		for j := range x.cols() {
			if x[i][j].Sign() == 0 && d.from(0, 1) == 0 {
				a.Cells = append(a.Cells, api.Cell{At: list(i, j), Vals: []api.Val{num(0, 1)}})
			}
		}
	}
	slices.SortFunc(a.Cells, func(a, b api.Cell) int { return slices.Compare(a.At, b.At) })
	return a
}

// of returns the matrix of a string.
func of(s string) api.Array { return read(s).array() }

// parse returns the array of a string.
func parse(s string) api.Array {
	a, e := space.Parse(s)
	if e != api.OK {
		panic("not the string of an array: " + s)
	}
	return a
}

// entries returns those of a matrix.
func entries(a api.Array) table {
	x := zeros(a.Dims[0].Hi+1, a.Dims[1].Hi+1)
	for _, c := range a.Cells {
		x[c.At[0]][c.At[1]] = rat(c.Vals[0].N, c.Vals[0].D)
	}
	return x
}

func sameArray(a, b api.Array) bool {
	return slices.Equal(a.Dims, b.Dims) && slices.Equal(a.Attrs, b.Attrs) && slices.EqualFunc(a.Cells, b.Cells, func(a, b api.Cell) bool {
		return slices.Equal(a.At, b.At) && slices.Equal(a.Vals, b.Vals)
	})
}

func isEmpty(a api.Array) bool { return len(a.Dims)+len(a.Attrs)+len(a.Cells) == 0 }

// expect compares a result with the normal form of a matrix.
func expect(t *testing.T, what any, a api.Array, e api.Errno, want table) {
	t.Helper()
	if e != api.OK {
		t.Fatalf("%v: error %d", what, e)
	}
	if space.Check(a) != api.OK {
		t.Fatalf("%v: an array that is not valid: %v", what, a)
	}
	if !sameArray(a, want.array()) {
		t.Fatalf("%v: %v, not %v", what, a, want)
	}
}

// expectError checks that there is an error, and an array of zero values.
func expectError(t *testing.T, what any, a api.Array, e, want api.Errno) {
	t.Helper()
	if e != want || !isEmpty(a) {
		t.Fatalf("%v: %v, error %d, not %d", what, a, e, want)
	}
}

// size returns a number of rows or columns, of which the limits come often.
func (d *dice) size() int {
	return pick(d, 1, 2, 3, 4, 5, 7, 8, 9, 12, matrix.MaxSize, d.from(1, matrix.MaxSize))
}

// table returns a matrix with entries of which a share are 0: all, half of them, or none.
func (d *dice) table(rows, cols int, entry func() *big.Rat) table {
	zero := pick(d, 0, 0, 1, 3, 9)
	return tableOf(rows, cols, func(i, j int) *big.Rat {
		if d.from(1, 10) <= zero {
			return new(big.Rat)
		}
		return entry()
	})
}

// small returns a number of which few are different.
func (d *dice) small() *big.Rat { return rat(int64(d.from(-3, 3)), pick(d, int64(1), 1, 1, 2, 3)) }

// digit returns a small integer.
func (d *dice) digit() *big.Rat { return rat(int64(d.from(-9, 9)), 1) }

// large returns a number near the limits of values.
func (d *dice) large() *big.Rat {
	return rat(pick(d, int64(1), -1)*int64(d.from(most-9, most)), pick(d, int64(1), 1, int64(d.from(most-9, most))))
}

// symmetric returns a symmetric matrix.
func (d *dice) symmetric(n int, entry func() *big.Rat) table {
	x := d.table(n, n, entry)
	return tableOf(n, n, func(i, j int) *big.Rat { return x[max(i, j)][min(i, j)] })
}

// definite returns a symmetric matrix that is positive definite, or semidefinite: a matrix of some rank times its transpose.
func (d *dice) definite(n, rank int, entry func() *big.Rat) table {
	x := d.table(n, rank, entry)
	return x.times(x.transposed())
}

// text returns a step as a string.
func text(s matrix.Step) string {
	names := []string{"", "Load", "Zero", "Store", "Drop", "Fma", "Swap", "Scale", "Row"}
	out := "no kind"
	if s.Kind > 0 && s.Kind < len(names) {
		out = names[s.Kind]
	}
	for _, n := range list(s.X, s.I, s.J, s.P, s.Q) {
		out += " " + strconv.Itoa(n)
	}
	return out
}
