package version

import (
	"maps"
	"slices"

	"tesseract/api"
)

// versionsError returns, for the first number with an error, ErrNone if there is no such version, or ErrStale if it was reclaimed.
func (t *Tree) versionsError(l ...int) api.Errno {
	for _, v := range l {
		if v < 1 || v > len(t.parents) {
			return api.ErrNone
		}
		if _, is := t.present[v]; !is {
			return api.ErrStale
		}
	}
	return api.OK
}

// base returns the greatest version that is an ancestor of two versions. Parents are less than their version,
// so a version has been reached on all ways when it is its turn, and the last turn is that of version 1, the ancestor of all.
func (t *Tree) base(a, b int) int {
	const fromA, fromB = 1, 2
	v := max(a, b)
	reached := make([]byte, v+1)
	reached[a] |= fromA
	reached[b] |= fromB
	for reached[v] != fromA|fromB {
		for _, p := range t.parents[v-1] {
			reached[p] |= reached[v]
		}
		v--
	}
	return v
}

// Reclaim reclaims versions that are not needed any more.
func (t *Tree) Reclaim(keep []int) (int, api.Errno) {
	if !valid(t) {
		return 0, api.ErrNil
	}
	if e := t.versionsError(keep...); e != api.OK {
		return 0, e
	}
	left := t.withBases(slices.Concat(keep, slices.Sorted(maps.Values(t.heads))))
	present := map[int]stored{}
	for _, v := range left {
		present[v] = t.supported(v, left)
	}
	reclaimed := len(t.present) - len(present)
	t.present = present
	return reclaimed, api.OK
}

// withBases returns some versions, each once, with all that are needed so that any two of them have their base among them.
func (t *Tree) withBases(l []int) []int {
	var out []int
	for len(l) > 0 {
		v := l[0]
		l = l[1:]
		if slices.Contains(out, v) {
			continue
		}
		for _, u := range out {
			l = append(l, t.base(u, v))
		}
		out = append(out, v)
	}
	return out
}

// supported returns what a version is stored as when only some versions are left.
func (t *Tree) supported(v int, left []int) stored {
	x := t.present[v]
	support := x.support
	for support != 0 && !slices.Contains(left, support) {
		support = t.present[support].support
	}
	if support == x.support {
		return x
	}
	return stored{difference(t.cells(support), t.cells(v)), support}
}

// Versions returns the numbers of the present versions.
func (t *Tree) Versions() []int {
	if !valid(t) {
		return nil
	}
	return slices.Sorted(maps.Keys(t.present))
}

// Get returns the array of a version.
func (t *Tree) Get(version int) (api.Array, api.Errno) {
	if !valid(t) {
		return api.Array{}, api.ErrNil
	}
	if e := t.versionsError(version); e != api.OK {
		return api.Array{}, e
	}
	return t.array(t.cells(version)), api.OK
}

// Diff returns the changes that lead from one version to another one.
func (t *Tree) Diff(from, to int) ([]api.Change, api.Errno) {
	if !valid(t) {
		return nil, api.ErrNil
	}
	if e := t.versionsError(from, to); e != api.OK {
		return nil, e
	}
	return difference(t.cells(from), t.cells(to)).copied(), api.OK
}

// Base returns the greatest common ancestor of two versions.
func (t *Tree) Base(a, b int) (int, api.Errno) {
	if !valid(t) {
		return 0, api.ErrNil
	}
	if e := t.versionsError(a, b); e != api.OK {
		return 0, e
	}
	return t.base(a, b), api.OK
}

// Info returns what is known of a version.
func (t *Tree) Info(version int) (Info, api.Errno) {
	if !valid(t) {
		return Info{}, api.ErrNil
	}
	if e := t.versionsError(version); e != api.OK {
		return Info{}, e
	}
	x := t.present[version]
	return Info{Parents: slices.Clone(t.parents[version-1]), Support: x.support, Changes: len(x.states)}, api.OK
}

// Size returns how many changes are stored.
func (t *Tree) Size() int {
	if !valid(t) {
		return 0
	}
	n := 0
	for _, x := range t.present {
		n += len(x.states)
	}
	return n
}
