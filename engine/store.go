package engine

import (
	"maps"
	"slices"

	"tesseract/api"
	"tesseract/chunk"
	"tesseract/space"
)

// Store has arrays that are stored in chunks.
type Store struct {
	self   *Store // the Store itself, so that one that no function of this package returned, also a copied one, is found out
	arrays map[string]stored
	bytes  map[place][]byte // the bytes of all chunks, which are replaced as a whole, as copies share them
}

// stored is what a store knows of an array besides the bytes of its chunks. It is not changed.
type stored struct {
	dims    []api.Dim
	attrs   []api.Attr
	layout  api.Layout
	numbers [][]int // those of the chunks, sorted
}

// place is where the bytes of a chunk are found: the name of the array, and the numbers of the chunk, with zeros behind them.
type place struct {
	name string
	no   [api.MaxDims]int
}

// placeOf returns the place of a chunk.
func placeOf(name string, no []int) place {
	p := place{name: name}
	copy(p.no[:], no)
	return p
}

// valid reports whether a function of this package returned s.
func valid(s *Store) bool { return s != nil && s.self == s }

// New returns a store without arrays.
func New() *Store {
	s := &Store{arrays: map[string]stored{}, bytes: map[place][]byte{}}
	s.self = s
	return s
}

// Put stores an array.
func (s *Store) Put(name string, a api.Array, l api.Layout) api.Errno {
	switch {
	case !valid(s):
		return api.ErrNil
	case space.Check(a) != api.OK:
		return api.ErrArg
	case !space.Name(name):
		return api.ErrName
	}
	if _, have := s.arrays[name]; have {
		return api.ErrHave
	}
	if len(s.arrays) == api.MaxArrays {
		return api.ErrMany
	}
	if e := space.Layout(a.Dims, l); e != api.OK {
		return e
	}
	s.keep(name, a, l)
	return api.OK
}

// keep stores an array for which Put has no error.
func (s *Store) keep(name string, a api.Array, l api.Layout) {
	x := stored{dims: slices.Clone(a.Dims), attrs: slices.Clone(a.Attrs), layout: copiedLayout(l)}
	chunks, _ := chunk.Split(a, l)
	for _, c := range chunks {
		x.numbers = append(x.numbers, c.No)
		s.bytes[placeOf(name, c.No)], _ = chunk.Encode(a.Dims, a.Attrs, l, c)
	}
	s.arrays[name] = x
}

// copiedLayout returns a layout in new memory.
func copiedLayout(l api.Layout) api.Layout {
	l.Sides, l.Overlap = slices.Clone(l.Sides), slices.Clone(l.Overlap)
	return l
}

// find returns the array with a name: ErrNil, or ErrNone.
func (s *Store) find(name string) (stored, api.Errno) {
	if !valid(s) {
		return stored{}, api.ErrNil
	}
	a, have := s.arrays[name]
	if !have {
		return stored{}, api.ErrNone
	}
	return a, api.OK
}

// Drop removes an array.
func (s *Store) Drop(name string) api.Errno {
	a, e := s.find(name)
	if e != api.OK {
		return e
	}
	for _, no := range a.numbers {
		delete(s.bytes, placeOf(name, no))
	}
	delete(s.arrays, name)
	return api.OK
}

// Move stores an array in another layout.
func (s *Store) Move(name string, l api.Layout) api.Errno {
	a, e := s.find(name)
	if e != api.OK {
		return e
	}
	if e := space.Layout(a.dims, l); e != api.OK {
		return e
	}
	all, e := readerOf(s).gathered(name, wholeOf(a.dims), a.numbers)
	if e != api.OK {
		return e
	}
	s.Drop(name)
	s.keep(name, all, l)
	return api.OK
}

// Schemas returns the stored arrays without their cells, sorted by their names.
func (s *Store) Schemas() api.DB {
	if !valid(s) {
		return nil
	}
	var out api.DB
	for _, name := range slices.Sorted(maps.Keys(s.arrays)) {
		a := s.arrays[name]
		out = append(out, api.Named{Name: name, Array: api.Array{Dims: slices.Clone(a.dims), Attrs: slices.Clone(a.attrs)}})
	}
	return out
}

// Layout returns the layout of a stored array.
func (s *Store) Layout(name string) (api.Layout, api.Errno) {
	a, e := s.find(name)
	if e != api.OK {
		return api.Layout{}, e
	}
	return copiedLayout(a.layout), api.OK
}

// Chunks returns the numbers of the chunks of a stored array.
func (s *Store) Chunks(name string) ([][]int, api.Errno) {
	a, e := s.find(name)
	if e != api.OK {
		return nil, e
	}
	var out [][]int
	for _, no := range a.numbers {
		out = append(out, slices.Clone(no))
	}
	return out, api.OK
}

// has reports whether an array has a chunk with some numbers.
func (a stored) has(no []int) bool {
	_, is := slices.BinarySearchFunc(a.numbers, no, space.Compare)
	return is
}

// Bytes returns the bytes of a chunk.
func (s *Store) Bytes(name string, no []int) ([]byte, api.Errno) {
	a, e := s.find(name)
	if e != api.OK {
		return nil, e
	}
	if !a.has(no) {
		return nil, api.ErrNone
	}
	return slices.Clone(s.bytes[placeOf(name, no)]), api.OK
}

// Flip changes a bit of the bytes of a chunk.
func (s *Store) Flip(name string, no []int, bit int) api.Errno {
	b, e := s.Bytes(name, no)
	if e != api.OK {
		return e
	}
	if bit < 0 || bit >= 8*len(b) {
		return api.ErrRange
	}
	b[bit/8] ^= 1 << (bit % 8)
	s.bytes[placeOf(name, no)] = b
	return api.OK
}

// Copy returns an independent store.
func (s *Store) Copy() *Store {
	if !valid(s) {
		return nil
	}
	out := New()
	out.arrays, out.bytes = maps.Clone(s.arrays), maps.Clone(s.bytes)
	return out
}
