package version

import (
	"maps"
	"slices"

	"tesseract/api"
	"tesseract/space"
)

// Tree is the history of an array.
type Tree struct {
	self *Tree // the Tree itself, so that one that no function of this package returned, also a copied one, is found out
	schema
	parents [][]int        // those of the version v, reclaimed or not, have the index v - 1
	present map[int]stored // by their numbers
	heads   map[string]int // by the names of the branches
}

// stored is what a present version is stored as: its difference from the array of its support.
type stored struct {
	states
	support int
}

// Head is a branch and its newest version.
type Head struct {
	Name    string
	Version int
}

// Info is what is known of a version: its parents, its support, and how many changes it is stored as.
type Info struct {
	Parents []int
	Support int
	Changes int
}

// valid reports whether a function of this package returned t.
func valid(t *Tree) bool { return t != nil && t.self == t }

// made returns a tree with its parts.
func made(t Tree) *Tree {
	t.self = &t
	return &t
}

// New returns the history of an array with one version, on the branch main.
func New(a api.Array) (*Tree, api.Errno) {
	if space.Check(a) != api.OK {
		return nil, api.ErrArg
	}
	t := made(Tree{schema: schemaOf(a).copied(), present: map[int]stored{}, heads: map[string]int{}})
	t.add("main", nil, 0, statesOf(a).copied())
	return t, api.OK
}

// add makes a version with some changes of its support, which becomes the head of a branch, and returns its number.
func (t *Tree) add(branch string, parents []int, support int, l states) int {
	t.parents = append(t.parents, parents)
	v := len(t.parents)
	t.present[v] = stored{l, support}
	t.heads[branch] = v
	return v
}

// isFull reports whether there cannot be another version.
func (t *Tree) isFull() bool { return len(t.present) >= MaxVersions }

// cells returns those of a present version: at all coordinates the newest states on the way from it to the version without a support.
// They are not applied one version after the other, which would walk through all cells for each of them. Number 0 has no cells.
func (t *Tree) cells(v int) states {
	newest := map[place]api.Change{}
	for ; v != 0; v = t.present[v].support {
		for _, c := range t.present[v].states {
			at := placeOf(c.At)
			if _, have := newest[at]; !have {
				newest[at] = c
			}
		}
	}
	var out states // in the order of the map, until they are sorted
	for _, c := range newest {
		if len(c.Vals) > 0 {
			out = append(out, c)
		}
	}
	return out.sorted()
}

// Commit makes a version on a branch.
func (t *Tree) Commit(branch string, head int, l []api.Change) (int, api.Errno) {
	if !valid(t) {
		return 0, api.ErrNil
	}
	now, have := t.heads[branch]
	if !have {
		return 0, api.ErrName
	}
	if head != now {
		return 0, api.ErrStale
	}
	cells := t.cells(head)
	after, e := t.changed(cells, l)
	if e != api.OK {
		return 0, e
	}
	changes := difference(cells, after)
	if len(changes) == 0 {
		return 0, api.ErrState
	}
	if t.isFull() {
		return 0, api.ErrFull
	}
	return t.add(branch, []int{head}, head, changes), api.OK
}

// Branch makes a branch.
func (t *Tree) Branch(name string, version int) api.Errno {
	if !valid(t) {
		return api.ErrNil
	}
	if !space.Name(name) {
		return api.ErrName
	}
	if _, have := t.heads[name]; have {
		return api.ErrHave
	}
	if e := t.versionsError(version); e != api.OK {
		return e
	}
	if len(t.heads) >= MaxBranches {
		return api.ErrFull
	}
	t.heads[name] = version
	return api.OK
}

// Drop removes a branch.
func (t *Tree) Drop(name string) api.Errno {
	if !valid(t) {
		return api.ErrNil
	}
	if _, have := t.heads[name]; !have {
		return api.ErrName
	}
	if len(t.heads) == 1 {
		return api.ErrState
	}
	delete(t.heads, name)
	return api.OK
}

// Merge merges a branch into another one.
func (t *Tree) Merge(into, from string) (version int, at []int, e api.Errno) {
	if !valid(t) {
		return 0, nil, api.ErrNil
	}
	a, b := t.heads[into], t.heads[from] // 0, if there is no such branch
	var cells, result states
	steps := []func() api.Errno{
		func() api.Errno { return unless(a > 0 && b > 0, api.ErrName) },
		func() api.Errno { return unless(t.base(a, b) != b, api.ErrState) },
		func() (e api.Errno) {
			cells = t.cells(a)
			result, at, e = merged(t.cells(t.base(a, b)), cells, t.cells(b))
			return e
		},
		func() api.Errno { return unless(!t.isFull(), api.ErrFull) },
	}
	for _, step := range steps {
		if e := step(); e != api.OK {
			return 0, slices.Clone(at), e
		}
	}
	return t.add(into, []int{a, b}, a, difference(cells, result)), nil, api.OK
}

// unless returns an error unless something is as it has to be.
func unless(is bool, e api.Errno) api.Errno {
	if is {
		return api.OK
	}
	return e
}

// Heads returns the branches.
func (t *Tree) Heads() []Head {
	if !valid(t) {
		return nil
	}
	var out []Head
	for _, name := range slices.Sorted(maps.Keys(t.heads)) {
		out = append(out, Head{name, t.heads[name]})
	}
	return out
}

// Copy returns an independent tree.
func (t *Tree) Copy() *Tree {
	if !valid(t) {
		return nil
	}
	return made(Tree{schema: t.schema, parents: slices.Clone(t.parents), present: maps.Clone(t.present), heads: maps.Clone(t.heads)})
}
