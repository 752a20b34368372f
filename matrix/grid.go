package matrix

// grid is a table with any numbers of rows and columns. A tile is a grid of numbers, and a matrix on a disk is a grid of tiles.
// A copy of a grid shares its elements, as a copy of a slice does.
type grid[E any] struct {
	rows, cols int
	elements   []E // row by row
}

// gridOf returns the grid of which a function returns the elements.
func gridOf[E any](rows, cols int, element func(i, j int) E) grid[E] {
	g := grid[E]{rows: rows, cols: cols}
	for i := range rows {
		for j := range cols {
			g.elements = append(g.elements, element(i, j))
		}
	}
	return g
}

func (g grid[E]) at(i, j int) E { return g.elements[i*g.cols+j] }

func (g grid[E]) set(i, j int, x E) { g.elements[i*g.cols+j] = x }
