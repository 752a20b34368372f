package version

import (
	"slices"

	"tesseract/api"
	"tesseract/exact"
)

// schema is the dimensions and attributes of an array. They do not change.
type schema struct {
	dims  []api.Dim
	attrs []api.Attr
}

// schemaOf returns the schema of an array. It shares the memory of the array.
func schemaOf(a api.Array) schema { return schema{a.Dims, a.Attrs} }

// copied returns a schema in new memory.
func (s schema) copied() schema { return schema{slices.Clone(s.dims), slices.Clone(s.attrs)} }

// array returns the array with some cells, in new memory.
func (s schema) array(cells states) api.Array {
	s = s.copied()
	out := api.Array{Dims: s.dims, Attrs: s.attrs, Cells: make([]api.Cell, len(cells))}
	for k, c := range cells.copied() {
		out.Cells[k] = api.Cell(c)
	}
	return out
}

// changed returns some cells with changes, or the errors of Apply. It shares no memory with the changes.
func (s schema) changed(cells states, l []api.Change) (states, api.Errno) {
	for _, c := range l {
		if e := s.changeError(c); e != api.OK {
			return nil, e
		}
	}
	changes := states(l).copied().sorted()
	for k := 1; k < len(changes); k++ {
		if slices.Equal(changes[k-1].At, changes[k].At) {
			return nil, api.ErrHave
		}
	}
	out := applied(cells, changes)
	if len(out) > api.MaxCells {
		return nil, api.ErrMany
	}
	return out, api.OK
}

// changeError returns the error of a change by itself, whatever the other ones are.
func (s schema) changeError(c api.Change) api.Errno {
	if len(c.At) != len(s.dims) || len(c.Vals) > 0 && len(c.Vals) != len(s.attrs) {
		return api.ErrShape
	}
	for k, x := range c.At {
		if x < s.dims[k].Lo || x > min(s.dims[k].Hi, api.MaxCoord) {
			return api.ErrRange
		}
	}
	for k, v := range c.Vals {
		if !exact.Fits(v, s.attrs[k].Type) {
			return api.ErrType
		}
	}
	return api.OK
}
