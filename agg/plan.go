package agg

import (
	"iter"
	"slices"

	"tesseract/api"
	"tesseract/space"
)

// cellsThemselves stands for the index of an attribute where the cells are counted.
const cellsThemselves = -1

// column is an aggregate of cells: its function, and the index of the attribute of the cells.
type column struct{ fn, from int }

// plan says what a result is: its dimensions, its attributes, and the column for each of these.
type plan struct {
	dims    []api.Dim
	attrs   []api.Attr
	columns []column
}

// dimIndex returns the index of the dimension with a name, and -1 if there is none.
func dimIndex(d []api.Dim, name string) int {
	return slices.IndexFunc(d, func(x api.Dim) bool { return x.Name == name })
}

// attrIndex returns the index of the attribute with a name, and -1 if there is none.
func attrIndex(a []api.Attr, name string) int {
	return slices.IndexFunc(a, func(x api.Attr) bool { return x.Name == name })
}

// planned returns the plan for aggregates of cells of an array, or the error of aggregates.
func planned(a api.Array, dims []api.Dim, aggs []api.Agg) (plan, api.Errno) {
	if len(aggs) == 0 || len(aggs) > api.MaxAttrs {
		return plan{}, api.ErrMany
	}
	p := plan{dims: dims}
	for _, x := range aggs {
		from, typ, e := origin(a, x)
		if e != api.OK {
			return plan{}, e
		}
		if !space.Name(x.As) || dimIndex(dims, x.As) >= 0 || attrIndex(p.attrs, x.As) >= 0 {
			return plan{}, api.ErrName
		}
		p.attrs = append(p.attrs, api.Attr{Name: x.As, Type: typ})
		p.columns = append(p.columns, column{fn: x.Fn, from: from})
	}
	return p, api.OK
}

// origin returns the index of the attribute of an aggregate, and the type of its results.
func origin(a api.Array, x api.Agg) (int, int, api.Errno) {
	if !isFunction(x.Fn) {
		return 0, 0, api.ErrArg
	}
	if x.Fn == api.Count && x.Attr == "" {
		return cellsThemselves, api.TInt, api.OK
	}
	k := attrIndex(a.Attrs, x.Attr)
	if k < 0 {
		return 0, 0, api.ErrName
	}
	typ, e := Type(x.Fn, a.Attrs[k].Type)
	return k, typ, e
}

// begun returns a state of no values for each column.
func (p plan) begun() []*State {
	out := make([]*State, len(p.columns))
	for k, c := range p.columns {
		out[k] = made(functionOf(c.fn))
	}
	return out
}

// add adds a cell to the state of each column.
func (p plan) add(states []*State, c api.Cell) {
	for k, x := range p.columns {
		v := api.Val{Kind: api.KBool} // to count a cell, any value will do that is not missing
		if x.from != cellsThemselves {
			v = c.Vals[x.from]
		}
		states[k].take(v)
	}
}

// statesOf returns the states of the columns for some cells.
func (p plan) statesOf(cells iter.Seq[api.Cell]) []*State {
	states := p.begun()
	for c := range cells {
		p.add(states, c)
	}
	return states
}

// results returns the results of some states.
func results(states []*State) []api.Val {
	out := make([]api.Val, len(states))
	for k, s := range states {
		out[k] = s.Result()
	}
	return out
}

// spot is a list of coordinates by which states or cells are found, with zeros behind it.
type spot [api.MaxDims]int

// spotOf returns the spot of a list of coordinates.
func spotOf(at []int) spot {
	var s spot
	copy(s[:], at)
	return s
}

// collected returns the result with a cell at all coordinates to which cells are moved: target returns those of a cell, and false if it is left out.
func (p plan) collected(cells []api.Cell, target func(api.Cell) ([]int, bool)) (api.Array, api.Errno) {
	states := map[spot][]*State{}
	for _, c := range cells {
		at, ok := target(c)
		if !ok {
			continue
		}
		s := spotOf(at)
		if states[s] == nil {
			states[s] = p.begun()
		}
		p.add(states[s], c)
	}
	var out []api.Cell // in the order of the map, until they are sorted by Make
	for s, l := range states {
		out = append(out, api.Cell{At: slices.Clone(s[:len(p.dims)]), Vals: results(l)})
	}
	return space.Make(p.dims, p.attrs, out)
}

// each returns the result with a cell at the coordinates of each cell: states returns the states of the columns for it.
func (p plan) each(cells []api.Cell, states func(api.Cell) []*State) (api.Array, api.Errno) {
	out := make([]api.Cell, len(cells))
	for k, c := range cells {
		out[k] = api.Cell{At: c.At, Vals: results(states(c))}
	}
	return space.Make(p.dims, p.attrs, out)
}
