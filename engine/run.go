package engine

import (
	"iter"
	"slices"

	"tesseract/api"
	"tesseract/query"
	"tesseract/space"
)

// Get returns the cells of a stored array in a box.
func (s *Store) Get(name string, b api.Box) (api.Array, Stats, api.Errno) {
	a, e := s.find(name)
	if e != api.OK {
		return api.Array{}, Stats{}, e
	}
	if !fits(b, a.dims) {
		return api.Array{}, Stats{}, api.ErrShape
	}
	out, n, e := readerOf(s).read(name, b)
	if e != api.OK {
		return api.Array{}, Stats{}, e
	}
	return out, Stats{Boxes: 1, Chunks: n}, api.OK
}

// tree returns the tree of an expression for the stored arrays: ErrNil, or the error of query.Schema.
func (s *Store) tree(e api.Expr) (*tree, api.Errno) {
	if !valid(s) {
		return nil, api.ErrNil
	}
	db := s.Schemas()
	if _, f := query.Schema(db, e); f != api.OK {
		return nil, f
	}
	return treeOf(db, e), api.OK
}

// Box returns the cells of the result of an expression in a box.
func (s *Store) Box(e api.Expr, b api.Box) (api.Array, Stats, api.Errno) {
	root, f := s.tree(e)
	if f != api.OK {
		return api.Array{}, Stats{}, f
	}
	if !fits(b, root.schema.Dims) {
		return api.Array{}, Stats{}, api.ErrShape
	}
	out, n, f := readerOf(s).evaluated(root, b)
	if f != api.OK {
		return api.Array{}, Stats{}, f
	}
	return out, Stats{Boxes: 1, Chunks: n}, api.OK
}

// evaluated returns the cells in a box of what a tree denotes, and how many chunks were decoded for it.
// All scans are read before anything is computed, as errors of reading come before those of cells.
func (r reader) evaluated(root *tree, b api.Box) (api.Array, int, api.Errno) {
	root.place(b)
	chunks := 0
	for x := range root.scans() {
		a, n, f := r.read(x.expr.Name, x.box)
		if f != api.OK {
			return api.Array{}, 0, f
		}
		x.cells = a
		chunks += n
	}
	out, f := root.value()
	return out, chunks, f
}

// Run returns the result of an expression, computed in boxes with some sides.
func (s *Store) Run(e api.Expr, sides []int) (api.Array, Stats, api.Errno) {
	root, f := s.tree(e)
	if f != api.OK {
		return api.Array{}, Stats{}, f
	}
	if f := sidesError(root.schema.Dims, sides); f != api.OK {
		return api.Array{}, Stats{}, f
	}
	r := readerOf(s)
	var cells []api.Cell
	var stats Stats
	for b := range boxes(root.schema.Dims, sides) {
		a, n, f := r.evaluated(root, b)
		if f != api.OK {
			return api.Array{}, Stats{}, f
		}
		cells = append(cells, a.Cells...)
		stats.Boxes++
		stats.Chunks += n
	}
	out, f := space.Make(root.schema.Dims, root.schema.Attrs, cells)
	if f != api.OK { // there are too many cells
		return api.Array{}, Stats{}, f
	}
	return out, stats, api.OK
}

// sidesError returns the error of the sides of a run.
func sidesError(d []api.Dim, sides []int) api.Errno {
	if len(sides) != len(d) {
		return api.ErrShape
	}
	if slices.ContainsFunc(sides, func(side int) bool { return side < 0 }) {
		return api.ErrArg
	}
	count := 1
	for k, side := range sides {
		count *= partsOf(d[k], side)
		if count > MaxBoxes {
			return api.ErrMany
		}
	}
	return api.OK
}

// isDivided reports whether a dimension is divided into parts with a side.
func isDivided(d api.Dim, side int) bool { return d.Hi != api.Open && side >= 1 }

// partsOf returns how many parts a dimension is divided into.
func partsOf(d api.Dim, side int) int {
	if !isDivided(d, side) {
		return 1
	}
	return (d.Hi-d.Lo)/side + 1
}

// boxes yields the boxes of a run, sorted by their Lo.
func boxes(d []api.Dim, sides []int) iter.Seq[api.Box] {
	return func(yield func(api.Box) bool) { yieldBoxes(api.Box{}, d, sides, yield) }
}

// yieldBoxes yields the boxes whose first bounds are those of begun, and reports whether more of them are wanted.
func yieldBoxes(begun api.Box, d []api.Dim, sides []int, yield func(api.Box) bool) bool {
	k := len(begun.Lo)
	if k == len(d) {
		return yield(begun)
	}
	for i := range partsOf(d[k], sides[k]) {
		lo, hi := part(d[k], sides[k], i)
		more := api.Box{Lo: append(slices.Clone(begun.Lo), lo), Hi: append(slices.Clone(begun.Hi), hi)}
		if !yieldBoxes(more, d, sides, yield) {
			return false
		}
	}
	return true
}

// part returns the bounds of the part of a dimension with the index i.
func part(d api.Dim, side, i int) (lo, hi int) {
	if !isDivided(d, side) {
		return d.Lo, d.Hi
	}
	lo = d.Lo + i*side
	return lo, lo + min(side-1, d.Hi-lo)
}
