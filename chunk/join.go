package chunk

import (
	"iter"
	"slices"

	"tesseract/api"
	"tesseract/space"
)

// Split returns the chunks of an array that have cells in their cores.
func Split(a api.Array, l api.Layout) ([]Chunk, api.Errno) {
	if space.Check(a) != api.OK {
		return nil, api.ErrArg
	}
	if e := space.Layout(a.Dims, l); e != api.OK {
		return nil, e
	}
	out := coreChunks(a, l)
	for _, c := range a.Cells {
		homes, _ := space.Homes(a.Dims, l, c.At)
		for _, no := range homes {
			if k, is := slices.BinarySearchFunc(out, no, compareNo); is {
				out[k].Cells = append(out[k].Cells, api.Cell{At: slices.Clone(c.At), Vals: slices.Clone(c.Vals)})
			}
		}
	}
	return out, api.OK
}

// compareNo compares the numbers of a chunk with others.
func compareNo(c Chunk, no []int) int { return space.Compare(c.No, no) }

// coreChunks returns the chunks in whose cores an array has cells, sorted, and still without cells.
func coreChunks(a api.Array, l api.Layout) []Chunk {
	var numbers [][]int
	for _, c := range a.Cells {
		no, _ := space.Chunk(a.Dims, l, c.At)
		numbers = append(numbers, no)
	}
	slices.SortFunc(numbers, space.Compare)
	var out []Chunk
	for _, no := range slices.CompactFunc(numbers, slices.Equal) {
		box, _ := space.Wide(a.Dims, l, no)
		out = append(out, Chunk{No: no, Box: box})
	}
	return out
}

// numbers are the numbers of a chunk, in a form that can be the key of a map.
type numbers [api.MaxDims]int

// numbersOf returns these numbers.
func numbersOf(no []int) numbers {
	var n numbers
	copy(n[:], no)
	return n
}

// Join returns the array of some chunks.
func Join(d []api.Dim, a []api.Attr, l api.Layout, chunks []Chunk) (api.Array, api.Errno) {
	if e := gridError(d, a, l); e != api.OK {
		return api.Array{}, e
	}
	have := map[numbers]bool{}
	var cells []api.Cell
	for _, c := range chunks {
		if e := chunkError(d, a, l, c); e != api.OK {
			return api.Array{}, e
		}
		if have[numbersOf(c.No)] {
			return api.Array{}, api.ErrHave
		}
		have[numbersOf(c.No)] = true
		cells = append(cells, c.Cells...)
	}
	slices.SortFunc(cells, compareCells)
	cells, e := united(d, l, have, cells)
	if e != api.OK {
		return api.Array{}, e
	}
	return space.Make(d, a, cells)
}

// united returns each of the sorted cells of some valid chunks once.
func united(d []api.Dim, l api.Layout, have map[numbers]bool, cells []api.Cell) ([]api.Cell, api.Errno) {
	var out []api.Cell
	lost := false
	for same := range together(cells) {
		homes, _ := space.Homes(d, l, same[0].At)
		if conflict(have, homes, same) {
			return nil, api.ErrConflict
		}
		core, _ := space.Chunk(d, l, same[0].At)
		lost = lost || !have[numbersOf(core)]
		out = append(out, same[0])
	}
	if lost {
		return nil, api.ErrLost
	}
	return out, api.OK
}

// together yields the cells with the same coordinates, which follow each other.
func together(cells []api.Cell) iter.Seq[[]api.Cell] {
	return func(yield func([]api.Cell) bool) {
		for i := 0; i < len(cells); {
			n := 1
			for i+n < len(cells) && compareCells(cells[i], cells[i+n]) == 0 {
				n++
			}
			if !yield(cells[i : i+n]) {
				return
			}
			i += n
		}
	}
}

// conflict reports whether one of the chunks that are homes of some cells has none of them, or the cells differ.
// A chunk has no two cells with the same coordinates.
func conflict(have map[numbers]bool, homes [][]int, same []api.Cell) bool {
	n := 0
	for _, no := range homes {
		if have[numbersOf(no)] {
			n++
		}
	}
	if n != len(same) {
		return true
	}
	for _, c := range same {
		if !slices.Equal(c.Vals, same[0].Vals) {
			return true
		}
	}
	return false
}
