package matrix

import "tesseract/exact"

// leastMemory is how many tiles each program needs room for. None uses more.
const leastMemory = 3

// program is a machine whose steps are written down.
type program struct {
	machine
	steps []Step
}

// do does a step and writes it down.
func (p *program) do(s Step) {
	p.run(s)
	p.steps = append(p.steps, s)
}

// with does a step for a tile that brings it into the memory, calls f, and does some more steps for the tile.
// If the tile is there already, all this is left to the call that brought it there.
func (p *program) with(at place, first int, f func(), then ...int) {
	if _, there := p.memory[at]; there {
		f()
		return
	}
	p.do(at.step(first))
	f()
	for _, kind := range then {
		p.do(at.step(kind))
	}
}

// reading calls f while a tile is in the memory.
func (p *program) reading(at place, f func()) { p.with(at, Load, f, Drop) }

// changing calls f, which changes a tile, while it is in the memory. A call within reading, for the same tile, would not store it.
func (p *program) changing(at place, f func()) { p.with(at, Load, f, Store, Drop) }

// making calls f, which makes a tile of zeros, while it is in the memory.
func (p *program) making(at place, f func()) { p.with(at, Zero, f, Store, Drop) }

// multiply makes the matrix 2 the product of the matrices 0 and 1.
func (p *program) multiply() {
	x, y := p.disk[0], p.disk[1]
	for i := range x.rows {
		for j := range y.cols {
			p.making(place{2, i, j}, func() {
				for k := range x.cols {
					p.reading(place{0, i, k}, func() {
						p.reading(place{1, k, j}, func() { p.do(Step{Kind: Fma, I: i, J: j, P: k}) })
					})
				}
			})
		}
	}
}

// factor makes of the matrix 0, which has n rows, its factors. It returns which of the rows is at which place, and whether there was an odd number of exchanges.
func (p *program) factor(n int) (perm []int, odd bool) {
	for row := range n {
		perm = append(perm, row)
	}
	for c := range n {
		row, is := p.pivot(c)
		if !is {
			continue
		}
		if row != c {
			p.swapRows(c, row)
			perm[c], perm[row] = perm[row], perm[c]
			odd = !odd
		}
		p.eliminateWithin(c)
		p.eliminateBehind(c)
	}
	return perm, odd
}

// pivot returns the first row, from the row c on, whose entry in the column c has the greatest absolute value, or false if all of them are 0.
func (p *program) pivot(c int) (row int, is bool) {
	greatest := whole(0)
	block := c / p.side
	for i := block; i < p.disk[0].rows; i++ {
		p.reading(place{0, i, block}, func() {
			tile := p.tile(0, i, block)
			for r := p.behind(i, c-1); r < tile.rows; r++ {
				if x := absolute(tile.at(r, c%p.side)); exact.Cmp(x, greatest) > 0 {
					row, greatest, is = i*p.side+r, x, true
				}
			}
		})
	}
	return row, is
}

// absolute returns the absolute value of x.
func absolute(x *exact.Rat) *exact.Rat {
	if x.Sign() < 0 {
		return exact.Sub(whole(0), x)
	}
	return x
}

// swapRows exchanges two rows.
func (p *program) swapRows(c, row int) {
	for j := range p.disk[0].cols {
		p.changing(place{0, c / p.side, j}, func() {
			p.changing(place{0, row / p.side, j}, func() { p.do(Step{Kind: Swap, J: j, P: c, Q: row}) })
		})
	}
}

// eliminateWithin eliminates the column c, as far as the tiles reach in which it is: these have the multipliers of all rows then.
func (p *program) eliminateWithin(c int) {
	block := c / p.side
	p.changing(place{0, block, block}, func() {
		for i := block; i < p.disk[0].rows; i++ {
			p.changing(place{0, i, block}, func() {
				p.do(Step{Kind: Scale, I: i, P: c})
				p.do(Step{Kind: Row, I: i, J: block, P: c})
			})
		}
	})
}

// eliminateBehind eliminates the column c in the tiles behind those in which it is. Each of their columns of tiles needs the multipliers again.
func (p *program) eliminateBehind(c int) {
	block := c / p.side
	for j := block + 1; j < p.disk[0].cols; j++ {
		p.changing(place{0, block, j}, func() {
			for i := block; i < p.disk[0].rows; i++ {
				p.reading(place{0, i, block}, func() {
					p.changing(place{0, i, j}, func() { p.do(Step{Kind: Row, I: i, J: j, P: c}) })
				})
			}
		})
	}
}
