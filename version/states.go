package version

import (
	"iter"
	"slices"

	"tesseract/api"
	"tesseract/space"
)

// states is a list of coordinates, sorted, with the state at each of them: values, or none where it is empty.
// The cells of an array are such a list, and so are changes. As a list does not change once it is made, lists may share memory.
type states []api.Change

// statesOf returns the cells of an array. They share its memory.
func statesOf(a api.Array) states {
	out := make(states, len(a.Cells))
	for k, c := range a.Cells {
		out[k] = api.Change(c)
	}
	return out
}

// copied returns a list in new memory.
func (s states) copied() states {
	out := make(states, len(s))
	for k, c := range s {
		out[k] = api.Change{At: slices.Clone(c.At), Vals: slices.Clone(c.Vals)}
	}
	return out
}

// sorted sorts a list that nothing else has yet, and returns it.
func (s states) sorted() states {
	slices.SortFunc(s, func(x, y api.Change) int { return space.Compare(x.At, y.At) })
	return s
}

// place is coordinates by which something is found, with zeros behind them.
type place [api.MaxDims]int

// placeOf returns the place of coordinates.
func placeOf(at []int) place {
	var p place
	copy(p[:], at)
	return p
}

// pairs yields, for all coordinates that are in one of two lists, in their order, what both lists have there: nil where a list does not have them.
func pairs(a, b states) iter.Seq2[*api.Change, *api.Change] {
	return func(yield func(x, y *api.Change) bool) {
		i, k := 0, 0
		for i < len(a) || k < len(b) {
			var x, y *api.Change
			order := compareHeads(a[i:], b[k:])
			if order <= 0 {
				x = &a[i]
				i++
			}
			if order >= 0 {
				y = &b[k]
				k++
			}
			if !yield(x, y) {
				return
			}
		}
	}
}

// compareHeads compares the first coordinates of two lists, not both of which are at their ends. Behind the end come no coordinates any more.
func compareHeads(a, b states) int {
	switch {
	case len(b) == 0:
		return -1
	case len(a) == 0:
		return 1
	}
	return space.Compare(a[0].At, b[0].At)
}

// difference returns the changes that lead from some cells to others.
func difference(from, to states) states {
	var out states
	for x, y := range pairs(from, to) {
		switch {
		case y == nil:
			out = append(out, api.Change{At: x.At})
		case x == nil || !sameState(x, y):
			out = append(out, *y)
		}
	}
	return out
}

// sameState reports whether two changes of the same coordinates lead to the same state.
func sameState(x, y *api.Change) bool { return slices.Equal(x.Vals, y.Vals) }

// applied returns some cells with changes.
func applied(cells, changes states) states {
	out := make(states, 0, len(cells))
	for x, y := range pairs(cells, changes) {
		if y == nil {
			y = x
		}
		if len(y.Vals) > 0 {
			out = append(out, *y)
		}
	}
	return out
}

// merged returns the merge of cells that were made of a base: ErrConflict with the first coordinates that both changed to different states, or ErrMany.
func merged(base, a, b states) (states, []int, api.Errno) {
	var both states
	for x, y := range pairs(difference(base, a), difference(base, b)) {
		switch {
		case x == nil:
			x = y
		case y != nil && !sameState(x, y):
			return nil, x.At, api.ErrConflict
		}
		both = append(both, *x)
	}
	out := applied(base, both)
	if len(out) > api.MaxCells {
		return nil, nil, api.ErrMany
	}
	return out, nil, api.OK
}
