package version_test

import (
	"maps"
	"slices"
	"strconv"
	"testing"

	"tesseract/api"
	"tesseract/space"
	"tesseract/version"
)

// model is what a tree must be: it keeps the arrays of all versions.
type model struct {
	arrays  []api.Array // the array of the version v has the index v - 1
	parents [][]int
	present map[int]bool
	heads   map[string]int
}

func modelOf(a api.Array) *model {
	return &model{[]api.Array{a}, [][]int{nil}, map[int]bool{1: true}, map[string]int{"main": 1}}
}

func (m *model) copied() *model {
	return &model{slices.Clone(m.arrays), slices.Clone(m.parents), maps.Clone(m.present), maps.Clone(m.heads)}
}

func (m *model) add(branch string, a api.Array, parents ...int) int {
	m.arrays, m.parents = append(m.arrays, a), append(m.parents, parents)
	v := len(m.arrays)
	m.present[v], m.heads[branch] = true, v
	return v
}

func (m *model) commit(branch string, head int, l []api.Change) (int, api.Errno) {
	if m.heads[branch] == 0 {
		return 0, api.ErrName
	}
	if m.heads[branch] != head {
		return 0, api.ErrStale
	}
	now := m.arrays[head-1]
	a, e := specApply(now, l)
	switch {
	case e != api.OK:
		return 0, e
	case sameArray(a, now):
		return 0, api.ErrState
	case len(m.present) == version.MaxVersions:
		return 0, api.ErrFull
	}
	return m.add(branch, a, head), api.OK
}

// ancestors returns those of a version.
func (m *model) ancestors(v int) map[int]bool {
	out := map[int]bool{v: true}
	for _, p := range m.parents[v-1] {
		maps.Copy(out, m.ancestors(p))
	}
	return out
}

// base returns the base of two versions.
func (m *model) base(a, b int) int {
	both := m.ancestors(a)
	of := m.ancestors(b)
	maps.DeleteFunc(both, func(v int, _ bool) bool { return !of[v] })
	return slices.Max(slices.Collect(maps.Keys(both)))
}

func (m *model) merge(into, from string) (int, []int, api.Errno) {
	a, b := m.heads[into], m.heads[from]
	if a == 0 || b == 0 {
		return 0, nil, api.ErrName
	}
	if m.ancestors(a)[b] {
		return 0, nil, api.ErrState
	}
	x, at, e := specMerged(m.arrays[m.base(a, b)-1], m.arrays[a-1], m.arrays[b-1])
	if e == api.OK && len(m.present) == version.MaxVersions {
		e = api.ErrFull
	}
	if e != api.OK {
		return 0, at, e
	}
	return m.add(into, x, a, b), nil, api.OK
}

// missing returns the error of a number of a version.
func (m *model) missing(l ...int) api.Errno {
	for _, v := range l {
		if v < 1 || v > len(m.arrays) {
			return api.ErrNone
		}
		if !m.present[v] {
			return api.ErrStale
		}
	}
	return api.OK
}

func (m *model) branch(name string, v int) api.Errno {
	switch e := m.missing(v); {
	case !space.Name(name):
		return api.ErrName
	case m.heads[name] != 0:
		return api.ErrHave
	case e != api.OK:
		return e
	case len(m.heads) == version.MaxBranches:
		return api.ErrFull
	}
	m.heads[name] = v
	return api.OK
}

func (m *model) drop(name string) api.Errno {
	if m.heads[name] == 0 {
		return api.ErrName
	}
	if len(m.heads) == 1 {
		return api.ErrState
	}
	delete(m.heads, name)
	return api.OK
}

func (m *model) reclaim(keep []int) (int, api.Errno) {
	if e := m.missing(keep...); e != api.OK {
		return 0, e
	}
	left := map[int]bool{}
	for _, v := range append(slices.Collect(maps.Values(m.heads)), keep...) {
		left[v] = true
	}
	for before := 0; before < len(left); { // until no base is new
		before = len(left)
		l := slices.Sorted(maps.Keys(left))
		for _, a := range l {
			for _, b := range l {
				left[m.base(a, b)] = true
			}
		}
	}
	n := len(m.present) - len(left)
	m.present = left
	return n, api.OK
}

// support returns the support of a version.
func (m *model) support(v int) int {
	for len(m.parents[v-1]) > 0 {
		v = m.parents[v-1][0]
		if m.present[v] {
			return v
		}
	}
	return 0
}

// compares checks that a tree is what it must be.
func (m *model) compares(t *testing.T, h *version.Tree) {
	t.Helper()
	var heads []version.Head
	for _, name := range slices.Sorted(maps.Keys(m.heads)) {
		heads = append(heads, version.Head{Name: name, Version: m.heads[name]})
	}
	expectHeads(t, h, heads...)
	present := slices.Sorted(maps.Keys(m.present))
	expectVersions(t, h, present...)
	size := 0
	for _, v := range present {
		a := m.arrays[v-1]
		expectGet(t, h, v, a)
		before := api.Array{}
		if s := m.support(v); s > 0 {
			before = m.arrays[s-1]
		}
		n := len(specDelta(before, a))
		expectInfo(t, h, v, m.parents[v-1], m.support(v), n)
		size += n
	}
	if h.Size() != size {
		t.Fatalf("the size is %d, not %d", h.Size(), size)
	}
}

// comparesPair checks what a tree returns for two numbers of versions.
func (m *model) comparesPair(t *testing.T, h *version.Tree, a, b int) {
	t.Helper()
	want := m.missing(a, b)
	l, e := h.Diff(a, b)
	x, f := h.Base(a, b)
	if want != api.OK {
		expectChanges(t, "Diff", l, e, nil, want)
		if x != 0 || f != want {
			t.Fatalf("Base of %d, %d: %d, error %d, not %d", a, b, x, f, want)
		}
		return
	}
	expectChanges(t, "Diff", l, e, specDelta(m.arrays[a-1], m.arrays[b-1]), api.OK)
	if x != m.base(a, b) || f != api.OK || !m.present[x] {
		t.Fatalf("Base of %d, %d: %d, error %d", a, b, x, f)
	}
	c, e := version.Apply(m.arrays[a-1], l)
	expectArray(t, "the difference applied", c, e, m.arrays[b-1])
}

// step does anything with a tree and its model, and checks that both return the same.
func (m *model) step(t *testing.T, d *dice, h *version.Tree) {
	t.Helper()
	names := []string{"main", "a", "b", "c", "d", "e", "f", "g", "h", "i", "B"}
	some := pick(d, slices.Sorted(maps.Keys(m.heads))...)
	other := pick(d, pick(d, names...), pick(d, slices.Sorted(maps.Keys(m.heads))...))
	number := d.from(0, len(m.arrays)+1)
	switch d.next() % 8 {
	case 0, 1, 2:
		l := d.changes(m.arrays[m.heads[some]-1], d.from(0, 2))
		if d.next()%8 == 0 {
			l = d.spoilChanges(m.arrays[0], l)
		}
		now := m.heads[some]
		if d.next()%8 == 0 {
			now = number
		}
		v, e := h.Commit(some, now, l)
		if w, f := m.commit(some, now, l); v != w || e != f {
			t.Fatalf("Commit on %s: %d, error %d, not %d, %d", some, v, e, w, f)
		}
	case 3, 4:
		v, at, e := h.Merge(some, other)
		if w, place, f := m.merge(some, other); v != w || e != f || !slices.Equal(at, place) {
			t.Fatalf("Merge of %s into %s: %d, %v, error %d, not %d, %v, %d", other, some, v, at, e, w, place, f)
		}
	case 5:
		number = pick(d, number, pick(d, slices.Sorted(maps.Keys(m.present))...))
		if e, f := h.Branch(other, number), m.branch(other, number); e != f {
			t.Fatalf("Branch of %s at %d: error %d, not %d", other, number, e, f)
		}
	case 6:
		if e, f := h.Drop(other), m.drop(other); e != f {
			t.Fatalf("Drop of %s: error %d, not %d", other, e, f)
		}
	case 7:
		if d.next()%4 > 0 {
			return
		}
		var keep []int
		for range d.from(0, 3) {
			keep = append(keep, pick(d, number, pick(d, slices.Sorted(maps.Keys(m.present))...), pick(d, slices.Sorted(maps.Keys(m.present))...)))
		}
		n, e := h.Reclaim(keep)
		if k, f := m.reclaim(keep); n != k || e != f {
			t.Fatalf("Reclaim of all but %v: %d, error %d, not %d, %d", keep, n, e, k, f)
		}
	}
}

// P8.3 to P8.7 and P8.11

func TestHistoriesAtRandom(t *testing.T) {
	d := dice(3)
	for range 60 {
		schema := d.schema()
		a := d.array(schema, d.from(0, 6))
		h, m := made(a), modelOf(a)
		var oldTree *version.Tree
		var oldModel *model
		for k := range 60 {
			m.step(t, &d, h)
			m.compares(t, h)
			for range 3 {
				m.comparesPair(t, h, d.from(-1, len(m.arrays)+1), d.from(-1, len(m.arrays)+1))
			}
			all := slices.Sorted(maps.Keys(m.present))
			m.comparesPair(t, h, pick(&d, all...), pick(&d, all...))
			if k == 30 {
				oldTree, oldModel = h.Copy(), m.copied()
			}
		}
		oldModel.compares(t, oldTree)
		for range 20 { // both go on by themselves
			oldModel.step(t, &d, oldTree)
			oldModel.compares(t, oldTree)
		}
		m.compares(t, h)
	}
}

// P8.11: two branches that are merged into each other have the same array, and any two branches can be merged whatever was reclaimed.
func TestMergesBackAtRandom(t *testing.T) {
	d := dice(4)
	back := 0
	for range 200 {
		schema := d.schema()
		h := made(d.array(schema, 5))
		names := []string{"main", "a", "b"}
		branch(t, h, "a", 1)
		branch(t, h, "b", 1)
		for range 25 {
			x := pick(&d, names...)
			now, _ := h.Get(head(h, x))
			h.Commit(x, head(h, x), d.changes(now, 2))
			if d.next()%3 == 0 {
				h.Reclaim(nil)
			}
			l := shuffled(&d, names)
			_, _, e := h.Merge(l[0], l[1])
			if e != api.OK && e != api.ErrState && e != api.ErrConflict {
				t.Fatalf("Merge: error %d", e)
			}
			if d.next()%3 == 0 {
				h.Reclaim(nil)
			}
			if _, _, f := h.Merge(l[1], l[0]); e == api.OK && f == api.OK {
				x, _ := h.Get(head(h, l[0]))
				y, _ := h.Get(head(h, l[1]))
				expectArray(t, l, x, api.OK, y)
				back++
			}
		}
	}
	if back < 500 {
		t.Errorf("%d merges into each other", back)
	}
}

// P8.6

func TestReclaim(t *testing.T) {
	h := made(parse(table))
	for k := range 6 {
		commit(t, h, "main", "0 0: "+strconv.Itoa(k))
	}
	before := h.Copy()
	for _, x := range []struct {
		keep []int
		want api.Errno
	}{{list(0), api.ErrNone}, {list(1, 8), api.ErrNone}, {list(-1<<63, 1), api.ErrNone}} {
		n, e := h.Reclaim(x.keep)
		expectRefused(t, x, n, e, x.want, h, before)
	}
	if n, e := h.Reclaim(list(5, 2, 5, 2)); n != 4 || e != api.OK {
		t.Error(n, e)
	}
	expectVersions(t, h, 2, 5, 7)
	expectInfo(t, h, 2, list(1), 0, 4)
	expectInfo(t, h, 5, list(4), 2, 1)
	expectInfo(t, h, 7, list(6), 5, 1)
	before = h.Copy()
	for _, x := range []struct {
		keep []int
		want api.Errno
	}{{list(1), api.ErrStale}, {list(2, 3, 9), api.ErrStale}, {list(2, 9, 3), api.ErrNone}} {
		n, e := h.Reclaim(x.keep)
		expectRefused(t, x, n, e, x.want, h, before)
	}
	if n, e := h.Reclaim(list(2, 5, 7)); n != 0 || e != api.OK || !sameTree(h, before) {
		t.Error(n, e)
	}
	if n, e := h.Reclaim(nil); n != 2 || e != api.OK {
		t.Error(n, e)
	}
	expectVersions(t, h, 7)
	expectGet(t, h, 7, cells("0 0: 5\n1 0: 7\n1 1: ?1\n3 1: 2\n"))
	expectNumber(t, commit(t, h, "main", "0 0:"), 8)
}

// A version that changes a cell and a later one that changes it back leave nothing behind when both are reclaimed.
func TestReclaimChangesBack(t *testing.T) {
	h := made(parse(table))
	commit(t, h, "main", "0 0: 6; 3 1:; 2 0: 1")
	commit(t, h, "main", "0 0: 5; 3 1: 2; 2 0:; 1 0: 8")
	if n, e := h.Reclaim(list(1)); n != 1 || e != api.OK {
		t.Error(n, e)
	}
	expectInfo(t, h, 3, list(2), 1, 1)
	commit(t, h, "main", "1 0: 9")
	commit(t, h, "main", "1 0: 8")
	h.Reclaim(list(1, 3))
	expectInfo(t, h, 5, list(4), 3, 0)
	if h.Size() != 5 {
		t.Error(h.Size())
	}
}

// Bases of versions that stay have bases themselves, which stay, too; and a base can come from the second parents.
func TestReclaimBases(t *testing.T) {
	h := made(parse(table))
	commit(t, h, "main", "0 0: 1") // 2
	for _, name := range []string{"a", "b"} {
		branch(t, h, name, 2)
	}
	commit(t, h, "a", "1 0: 1") // 3
	commit(t, h, "b", "3 1: 1") // 4
	branch(t, h, "c", 3)
	branch(t, h, "d", 4)
	for _, name := range []string{"a", "b", "c", "d"} { // 5 to 8
		commit(t, h, name, "2 0: 1")
	}
	commit(t, h, "main", "0 0: 2") // 9
	old := h.Copy()
	if n, e := h.Reclaim(nil); n != 1 || e != api.OK {
		t.Error(n, e)
	}
	expectVersions(t, h, 2, 3, 4, 5, 6, 7, 8, 9)
	h = old
	expectNumber(t, merge(t, h, "main", "a"), 10)
	expectNumber(t, merge(t, h, "main", "b"), 11)
	for _, name := range []string{"a", "b"} {
		if e := h.Drop(name); e != api.OK {
			t.Error(e)
		}
	}
	// What is left: c (7, of 3) and d (8, of 4) meet in 2, and main (11) has 3 and 4 among its ancestors, by second parents.
	if n, e := h.Reclaim(nil); n != 5 || e != api.OK {
		t.Error(n, e)
	}
	expectVersions(t, h, 2, 3, 4, 7, 8, 11)
	expectInfo(t, h, 11, list(10, 6), 2, 4)
	expectGet(t, h, 11, cells("0 0: 2\n1 0: 1\n1 1: ?1\n2 0: 1\n3 1: 1\n"))
	for _, x := range [][3]int{{7, 8, 2}, {7, 11, 3}, {11, 8, 4}, {11, 11, 11}, {2, 11, 2}} {
		if b, e := h.Base(x[0], x[1]); b != x[2] || e != api.OK {
			t.Errorf("Base of %d, %d: %d, error %d", x[0], x[1], b, e)
		}
	}
}

// P8.7

func TestNumbers(t *testing.T) {
	h := made(parse(table))
	commit(t, h, "main", "0 0: 1")
	commit(t, h, "main", "0 0: 2")
	h.Reclaim(list(1))
	for _, x := range []struct {
		a, b int
		want api.Errno
	}{
		{0, 1, api.ErrNone}, {1, 0, api.ErrNone}, {4, 2, api.ErrNone}, {2, 4, api.ErrStale}, {1, 2, api.ErrStale}, {3, 4, api.ErrNone},
		{-1 << 63, 2, api.ErrNone}, {1<<63 - 1, 2, api.ErrNone}, {2, 2, api.ErrStale}, {1, -1, api.ErrNone},
	} {
		l, e := h.Diff(x.a, x.b)
		expectChanges(t, x, l, e, nil, x.want)
		if b, e := h.Base(x.a, x.b); b != 0 || e != x.want {
			t.Errorf("Base of %v: %d, error %d", x, b, e)
		}
	}
	for v, want := range map[int]api.Errno{0: api.ErrNone, 2: api.ErrStale, 4: api.ErrNone, -1 << 63: api.ErrNone, 1<<63 - 1: api.ErrNone} {
		a, e := h.Get(v)
		expectError(t, v, a, e, want)
		if i, e := h.Info(v); e != want || len(i.Parents) != 0 || i.Support != 0 || i.Changes != 0 {
			t.Errorf("Info of %d: %v, error %d", v, i, e)
		}
	}
	l, e := h.Diff(3, 1)
	expectChanges(t, "Diff", l, e, changes("0 0: 5"), api.OK)
	l, e = h.Diff(3, 3)
	expectChanges(t, "Diff", l, e, nil, api.OK)
}

// A long history in which almost everything was reclaimed.
func TestLongHistory(t *testing.T) {
	h := made(parse(table))
	branch(t, h, "b", 1)
	for k := range 2000 {
		commit(t, h, "main", "0 0: "+strconv.Itoa(k+10))
		if len(h.Versions()) == version.MaxVersions {
			h.Reclaim(nil)
		}
	}
	h.Reclaim(nil)
	expectVersions(t, h, 1, 2001)
	expectInfo(t, h, 2001, list(2000), 1, 1)
	commit(t, h, "b", "1 0: 1")
	expectNumber(t, merge(t, h, "main", "b"), 2003)
	expectGet(t, h, 2003, cells("0 0: 2009\n1 0: 1\n1 1: ?1\n3 1: 2\n"))
}
