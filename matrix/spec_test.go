package matrix_test

import (
	"math/big"
	"slices"
	"testing"

	"tesseract/api"
	"tesseract/matrix"
)

// This file computes what the chapter defines, as its words say it, entry by entry, with other numbers.

// machine is the machine of the chapter. Its memory has whole matrices, whose entries mean something where their tile is there.
type machine struct {
	side, room int
	disk       []table
	memory     []table
	there      map[[3]int]bool
	loads      int
}

func newMachine(side, room int, disk ...table) *machine {
	m := &machine{side: side, room: room, there: map[[3]int]bool{}}
	for _, x := range disk {
		m.disk = append(m.disk, x.copied())
		m.memory = append(m.memory, zeros(x.rows(), x.cols()))
	}
	return m
}

// span returns the numbers of the rows, or columns, of a tile, of n ones.
func (m *machine) span(tile, n int) []int {
	var out []int
	for k := range n {
		if k/m.side == tile {
			out = append(out, k)
		}
	}
	return out
}

// each calls f for each entry of a tile.
func (m *machine) each(x, i, j int, f func(r, c int)) {
	for _, r := range m.span(i, m.disk[x].rows()) {
		for _, c := range m.span(j, m.disk[x].cols()) {
			f(r, c)
		}
	}
}

// exists reports whether there is such a tile.
func (m *machine) exists(x, i, j int) bool {
	return x >= 0 && x < len(m.disk) && len(m.span(i, m.disk[x].rows())) > 0 && len(m.span(j, m.disk[x].cols())) > 0
}

// has reports whether some tiles are in the memory.
func (m *machine) has(l ...[3]int) bool {
	return !slices.ContainsFunc(l, func(at [3]int) bool { return !m.there[at] })
}

// possible reports whether a step is possible.
func (m *machine) possible(s matrix.Step) bool {
	at := [3]int{s.X, s.I, s.J}
	rows := m.disk[0].rows()
	isRow := func(p int) bool { return p >= 0 && p < rows }
	switch s.Kind {
	case matrix.Load, matrix.Zero:
		return s.P == 0 && s.Q == 0 && m.exists(s.X, s.I, s.J) && !m.has(at) && len(m.there) < m.room
	case matrix.Store, matrix.Drop:
		return s.P == 0 && s.Q == 0 && m.has(at)
	case matrix.Fma:
		return s.X == 0 && s.Q == 0 && len(m.disk) == 3 && m.has([3]int{0, s.I, s.P}, [3]int{1, s.P, s.J}, [3]int{2, s.I, s.J})
	case matrix.Swap:
		return s.X == 0 && s.I == 0 && isRow(s.P) && isRow(s.Q) && s.P != s.Q && m.has([3]int{0, s.P / m.side, s.J}, [3]int{0, s.Q / m.side, s.J})
	case matrix.Scale:
		return s.X == 0 && s.J == 0 && s.Q == 0 && isRow(s.P) && m.has([3]int{0, s.I, s.P / m.side}, [3]int{0, s.P / m.side, s.P / m.side}) && m.memory[0][s.P][s.P].Sign() != 0
	case matrix.Row:
		return s.X == 0 && s.Q == 0 && isRow(s.P) && m.has([3]int{0, s.I, s.J}, [3]int{0, s.I, s.P / m.side}, [3]int{0, s.P / m.side, s.J})
	}
	return false
}

// run does a step.
func (m *machine) run(s matrix.Step) {
	at := [3]int{s.X, s.I, s.J}
	switch s.Kind {
	case matrix.Load:
		m.there[at] = true
		m.loads++
		m.each(s.X, s.I, s.J, func(r, c int) { m.memory[s.X][r][c] = m.disk[s.X][r][c] })
	case matrix.Zero:
		m.there[at] = true
		m.loads++
		m.each(s.X, s.I, s.J, func(r, c int) { m.memory[s.X][r][c] = new(big.Rat) })
	case matrix.Store:
		m.each(s.X, s.I, s.J, func(r, c int) { m.disk[s.X][r][c] = m.memory[s.X][r][c] })
	case matrix.Drop:
		delete(m.there, at)
		m.each(s.X, s.I, s.J, func(r, c int) { m.memory[s.X][r][c] = rat(-77, 13) }) // what nobody may read any more
	case matrix.Fma:
		x, y, z := m.memory[0], m.memory[1], m.memory[2]
		m.each(2, s.I, s.J, func(r, c int) {
			for _, k := range m.span(s.P, x.cols()) {
				z[r][c] = add(z[r][c], mul(x[r][k], y[k][c]))
			}
		})
	case matrix.Swap:
		x := m.memory[0]
		for _, c := range m.span(s.J, x.cols()) {
			x[s.P][c], x[s.Q][c] = x[s.Q][c], x[s.P][c]
		}
	case matrix.Scale:
		x := m.memory[0]
		for _, r := range m.span(s.I, x.rows()) {
			if r > s.P {
				x[r][s.P] = quo(x[r][s.P], x[s.P][s.P])
			}
		}
	case matrix.Row:
		x := m.memory[0]
		m.each(0, s.I, s.J, func(r, c int) {
			if r > s.P && c > s.P {
				x[r][c] = sub(x[r][c], mul(x[r][s.P], x[s.P][c]))
			}
		})
	}
}

// replay checks that steps are a computation, and returns what the disk has at the end, and how many steps Load and Zero there are.
func replay(t *testing.T, l []matrix.Step, side, room int, disk ...table) ([]table, int) {
	t.Helper()
	m := newMachine(side, room, disk...)
	for k, s := range l {
		if !m.possible(s) {
			t.Fatalf("step %d, %s, is not possible with a side of %d and a room of %d", k, text(s), side, room)
		}
		m.run(s)
	}
	if len(m.there) > 0 {
		t.Fatal("tiles are left", m.there)
	}
	return m.disk, m.loads
}

// factors are the factors of a matrix.
type factors struct {
	perm         []int
	lower, upper table
	det          *big.Rat
}

// both returns the entries of both factors as one matrix.
func (f factors) both() table {
	return tableOf(len(f.perm), len(f.perm), func(i, j int) *big.Rat {
		if j < i {
			return f.lower[i][j]
		}
		return f.upper[i][j]
	})
}

// specFactors returns the factors of a matrix.
func specFactors(x table) factors {
	n := x.rows()
	x = x.copied()
	f := factors{perm: natural(n), det: rat(1, 1)}
	for p := range n {
		best := p
		for r := p + 1; r < n; r++ {
			if new(big.Rat).Abs(x[r][p]).Cmp(new(big.Rat).Abs(x[best][p])) > 0 {
				best = r
			}
		}
		if best != p {
			x[p], x[best] = x[best], x[p]
			f.perm[p], f.perm[best] = f.perm[best], f.perm[p]
			f.det = new(big.Rat).Neg(f.det)
		}
		f.det = mul(f.det, x[p][p])
		if x[p][p].Sign() == 0 {
			continue
		}
		for r := p + 1; r < n; r++ {
			multiplier := quo(x[r][p], x[p][p])
			for c := p + 1; c < n; c++ {
				x[r][c] = sub(x[r][c], mul(multiplier, x[p][c]))
			}
			x[r][p] = multiplier
		}
	}
	f.lower, f.upper = identity(n), zeros(n, n)
	for i := range n {
		for j := range n {
			if j < i {
				f.lower[i][j] = x[i][j]
			} else {
				f.upper[i][j] = x[i][j]
			}
		}
	}
	return f
}

// minor returns the determinant of the first n rows and columns, along its last row: for small numbers n only.
func minor(x table, n int) *big.Rat {
	cols := natural(n)
	var along func(row int, cols []int) *big.Rat
	along = func(row int, cols []int) *big.Rat {
		if row < 0 {
			return rat(1, 1)
		}
		sum := new(big.Rat)
		for k, c := range cols {
			if x[row][c].Sign() == 0 {
				continue
			}
			part := mul(x[row][c], along(row-1, slices.Delete(slices.Clone(cols), k, k+1)))
			if (row+k)%2 == 1 {
				part.Neg(part)
			}
			sum = add(sum, part)
		}
		return sum
	}
	return along(n-1, cols)
}

// network is the graph of a symmetric matrix, by the neighbors of its nodes.
type network map[int]map[int]bool

func networkOf(x table) network {
	g := network{}
	for i := range x {
		g[i] = map[int]bool{}
		for j := range x {
			if i != j && x[i][j].Sign() != 0 {
				g[i][j] = true
			}
		}
	}
	return g
}

func (g network) edges() int {
	n := 0
	for _, near := range g {
		n += len(near)
	}
	return n / 2
}

// eliminate eliminates a node, and returns how many edges are added.
func (g network) eliminate(node int) int {
	near := g[node]
	before := g.edges()
	for a := range near {
		for b := range near {
			if a != b {
				g[a][b] = true
			}
		}
	}
	added := g.edges() - before
	delete(g, node)
	for a := range near {
		delete(g[a], node)
	}
	return added
}

// specOrder returns the order of least degree.
func specOrder(x table) []int {
	g := networkOf(x)
	var out []int
	for range x {
		best := -1
		for _, node := range natural(x.rows()) {
			if near, is := g[node]; is && (best < 0 || len(near) < len(g[best])) {
				best = node
			}
		}
		g.eliminate(best)
		out = append(out, best)
	}
	return out
}

// specFill returns the fill of an order.
func specFill(x table, order []int) int {
	g := networkOf(x)
	n := 0
	for _, node := range order {
		n += g.eliminate(node)
	}
	return n
}

// specConjugate returns a solution and the number of steps, or false if a is not definite for b.
func specConjugate(a, b table) (table, int, bool) {
	dot := func(x, y table) *big.Rat { return x.transposed().times(y)[0][0] }
	x, r, p := zeros(b.rows(), 1), b, b
	steps := 0
	for dot(r, r).Sign() != 0 {
		q := a.times(p)
		d := dot(p, q)
		if d.Sign() <= 0 {
			return nil, 0, false
		}
		e := dot(r, r)
		x = x.plus(quo(e, d), p)
		r = r.plus(new(big.Rat).Neg(quo(e, d)), q)
		p = r.plus(quo(dot(r, r), e), p)
		steps++
	}
	return x, steps, true
}

// detOf returns a determinant as a value.
func detOf(x *big.Rat) api.Val {
	v, _ := value(x)
	return v
}
