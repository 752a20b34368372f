package system

import (
	"slices"
	"strings"

	"tesseract/api"
	"tesseract/space"
	"tesseract/version"
)

// The numbers of the layout of a new array.
const newSide = 8

// mainBranch is the branch that each array has.
const mainBranch = "main"

// stored is an array of a system.
type stored struct {
	name    string
	tree    *version.Tree
	layout  api.Layout
	pin     int              // the number of a present version, or 0
	pyramid *version.Pyramid // of the array of the head of main, or nil
}

// named returns the first element of a list with a name, and whether there is one.
func named[E any](l []E, name string, nameOf func(E) string) (E, bool) {
	for _, x := range l {
		if nameOf(x) == name {
			return x, true
		}
	}
	var none E
	return none, false
}

// nameOf returns the name of an array of a database.
func nameOf(x api.Named) string { return x.Name }

// find returns the array of a system with a name, and whether there is one.
func (s *System) find(name string) (*stored, bool) {
	return named(s.arrays, name, func(a *stored) string { return a.name })
}

// add makes an array of a system.
func (s *System) add(name string, a api.Array) api.Errno {
	if !space.Name(name) {
		return api.ErrName
	}
	if _, have := s.find(name); have {
		return api.ErrHave
	}
	if len(s.arrays) >= api.MaxArrays {
		return api.ErrMany
	}
	if e := space.Schema(a.Dims, a.Attrs); e != api.OK {
		return e
	}
	tree, e := version.New(a)
	if e != api.OK {
		return e
	}
	s.arrays = append(s.arrays, &stored{name: name, tree: tree, layout: newLayout(len(a.Dims))})
	slices.SortFunc(s.arrays, func(a, b *stored) int { return strings.Compare(a.name, b.name) })
	return api.OK
}

// newLayout returns the layout of a new array with n dimensions.
func newLayout(n int) api.Layout {
	return api.Layout{Sides: slices.Repeat([]int{newSide}, n), Overlap: make([]int, n), Order: api.RowMajor, Form: api.Dense, Codec: api.Plain}
}

// database returns the arrays of a system with what they show.
func (s *System) database() api.DB {
	var out api.DB
	for _, a := range s.arrays {
		out = append(out, api.Named{Name: a.name, Array: a.shown()})
	}
	return out
}

// shown returns what an array shows.
func (a *stored) shown() api.Array {
	v := a.pin
	if v == 0 {
		v = a.head()
	}
	out, _ := a.tree.Get(v)
	return out
}

// head returns the number of the head of main.
func (a *stored) head() int {
	h, _ := named(a.tree.Heads(), mainBranch, func(h version.Head) string { return h.Name })
	return h.Version
}

// newest returns the array of the head of main.
func (a *stored) newest() api.Array {
	out, _ := a.tree.Get(a.head())
	return out
}

// commit makes a version on a branch.
func (a *stored) commit(branch string, head int, l []api.Change) (int, api.Errno) {
	v, e := a.tree.Commit(branch, head, l)
	a.follow()
	return v, e
}

// follow changes the pyramid, if there is one, so that it is that of the head of main again.
func (a *stored) follow() {
	if a.pyramid == nil {
		return
	}
	before, _ := a.pyramid.Level(0)
	l, _ := version.Delta(before, a.newest())
	a.pyramid.Change(l)
}
