package matrix

import "tesseract/exact"

// place tells a tile: its matrix, and its row and its column among the tiles of this matrix.
type place struct{ x, i, j int }

// step returns a step of a kind that concerns this tile.
func (p place) step(kind int) Step { return Step{Kind: kind, X: p.x, I: p.i, J: p.j} }

// machine computes with tiles. The memory and the disk share no elements of tiles, so that a tile that is not stored stays as it was on the disk.
type machine struct {
	side   int
	disk   []grid[numbers] // the tiles of each matrix
	memory map[place]numbers
}

// newMachine returns a machine with some matrices on its disk.
func newMachine(side int, l ...numbers) machine {
	m := machine{side: side, memory: map[place]numbers{}}
	for _, x := range l {
		m.disk = append(m.disk, x.tiles(side))
	}
	return m
}

// tiles returns those of a matrix. The last ones of a row or a column can be smaller.
func (x numbers) tiles(side int) grid[numbers] {
	return gridOf((x.rows+side-1)/side, (x.cols+side-1)/side, func(i, j int) numbers {
		rows, cols := min(side, x.rows-i*side), min(side, x.cols-j*side)
		return numbersOf(rows, cols, func(r, c int) *exact.Rat { return x.at(i*side+r, j*side+c) })
	})
}

// matrix returns a matrix that is on the disk.
func (m machine) matrix(x int) numbers {
	tiles := m.disk[x]
	last := tiles.at(tiles.rows-1, tiles.cols-1)
	rows, cols := (tiles.rows-1)*m.side+last.rows, (tiles.cols-1)*m.side+last.cols
	return numbersOf(rows, cols, func(i, j int) *exact.Rat {
		return tiles.at(i/m.side, j/m.side).at(i%m.side, j%m.side)
	})
}

// tile returns a tile that is in the memory.
func (m machine) tile(x, i, j int) numbers { return m.memory[place{x, i, j}] }

// behind returns the first row, counted within the tiles of the row i, that is behind the row p of the matrix. It does the same for columns.
func (m machine) behind(i, p int) int { return max(0, p+1-i*m.side) }

// run does a step that is possible.
func (m machine) run(s Step) {
	at := place{s.X, s.I, s.J}
	block, p := s.P/m.side, s.P%m.side
	switch s.Kind {
	case Load:
		m.memory[at] = m.disk[s.X].at(s.I, s.J).copied()
	case Zero:
		tile := m.disk[s.X].at(s.I, s.J)
		m.memory[at] = zeros(tile.rows, tile.cols)
	case Store:
		m.disk[s.X].set(s.I, s.J, m.memory[at].copied())
	case Drop:
		delete(m.memory, at)
	case Fma:
		m.tile(2, s.I, s.J).addProduct(m.tile(0, s.I, s.P), m.tile(1, s.P, s.J))
	case Swap:
		m.tile(0, block, s.J).exchange(p, m.tile(0, s.Q/m.side, s.J), s.Q%m.side)
	case Scale:
		m.tile(0, s.I, block).divideColumn(p, m.behind(s.I, s.P), m.tile(0, block, block).at(p, p))
	case Row:
		m.tile(0, s.I, s.J).subtractRow(m.behind(s.I, s.P), m.behind(s.J, s.P), m.tile(0, s.I, block), m.tile(0, block, s.J), p)
	}
}
