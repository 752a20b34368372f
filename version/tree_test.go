package version_test

import (
	"slices"
	"strconv"
	"testing"

	"tesseract/api"
	"tesseract/version"
)

// made returns the tree of an array.
func made(a api.Array) *version.Tree {
	t, e := version.New(a)
	if e != api.OK {
		panic("an array without a tree")
	}
	return t
}

// head returns the head of a branch, or 0.
func head(h *version.Tree, branch string) int {
	for _, x := range h.Heads() {
		if x.Name == branch {
			return x.Version
		}
	}
	return 0
}

// commit commits changes on a branch, at its head, and returns the number.
func commit(t *testing.T, h *version.Tree, branch, l string) int {
	t.Helper()
	v, e := h.Commit(branch, head(h, branch), changes(l))
	if e != api.OK {
		t.Fatalf("Commit of %s on %s: error %d", l, branch, e)
	}
	return v
}

// branch makes a branch.
func branch(t *testing.T, h *version.Tree, name string, version int) {
	t.Helper()
	if e := h.Branch(name, version); e != api.OK {
		t.Fatalf("Branch %s at %d: error %d", name, version, e)
	}
}

// merge merges a branch into another one, and returns the number.
func merge(t *testing.T, h *version.Tree, into, from string) int {
	t.Helper()
	v, at, e := h.Merge(into, from)
	if e != api.OK || len(at) > 0 {
		t.Fatalf("Merge of %s into %s: %v, error %d", from, into, at, e)
	}
	return v
}

// expectInfo compares what is known of a version.
func expectInfo(t *testing.T, h *version.Tree, v int, parents []int, support, changes int) {
	t.Helper()
	if i, e := h.Info(v); e != api.OK || !slices.Equal(i.Parents, parents) || i.Support != support || i.Changes != changes {
		t.Errorf("Info of %d: %v, error %d", v, i, e)
	}
}

// expectGet compares the array of a version.
func expectGet(t *testing.T, h *version.Tree, v int, want api.Array) {
	t.Helper()
	a, e := h.Get(v)
	expectArray(t, v, a, e, want)
}

// expectVersions compares the present versions.
func expectVersions(t *testing.T, h *version.Tree, want ...int) {
	t.Helper()
	if l := h.Versions(); !slices.Equal(l, want) {
		t.Errorf("the versions are %v, not %v", l, want)
	}
}

// expectHeads compares the branches.
func expectHeads(t *testing.T, h *version.Tree, want ...version.Head) {
	t.Helper()
	if l := h.Heads(); !slices.Equal(l, want) {
		t.Errorf("the heads are %v, not %v", l, want)
	}
}

// expectRefused checks that a call had an error, and that a tree is as it was before.
func expectRefused(t *testing.T, what any, number int, e, want api.Errno, h, before *version.Tree) {
	t.Helper()
	if number != 0 || e != want {
		t.Errorf("%v: %d, error %d, not %d", what, number, e, want)
	}
	if !sameTree(h, before) {
		t.Errorf("%v: something has changed", what)
	}
}

// sameTree reports whether all that two trees return is the same.
func sameTree(a, b *version.Tree) bool {
	if !slices.Equal(a.Heads(), b.Heads()) || !slices.Equal(a.Versions(), b.Versions()) || a.Size() != b.Size() {
		return false
	}
	for _, v := range a.Versions() {
		x, _ := a.Get(v)
		y, _ := b.Get(v)
		i, _ := a.Info(v)
		k, _ := b.Info(v)
		if !sameArray(x, y) || !slices.Equal(i.Parents, k.Parents) || i.Support != k.Support || i.Changes != k.Changes {
			return false
		}
		for _, w := range a.Versions() {
			x, _ := a.Base(v, w)
			if y, _ := b.Base(v, w); x != y {
				return false
			}
		}
	}
	return true
}

// The chapter's examples.
func TestExamples(t *testing.T) {
	h := made(parse(table))
	expectNumber(t, commit(t, h, "main", "0 0: 6"), 2)
	branch(t, h, "b", 1)
	expectNumber(t, commit(t, h, "b", "3 1:"), 3)
	before := h.Copy()
	v, e := h.Commit("main", 1, changes("0 1: 1"))
	expectRefused(t, "an old head", v, e, api.ErrStale, h, before)
	v, e = h.Commit("main", 2, changes("0 0: 6"))
	expectRefused(t, "the same array", v, e, api.ErrState, h, before)
	if b, e := h.Base(2, 3); b != 1 || e != api.OK {
		t.Error(b, e)
	}
	l, e := h.Diff(2, 3)
	expectChanges(t, "Diff", l, e, changes("0 0: 5; 3 1:"), api.OK)
	expectNumber(t, merge(t, h, "main", "b"), 4)
	expectGet(t, h, 4, cells("0 0: 6\n1 0: 7\n1 1: ?1\n"))
	before = h.Copy()
	v, _, e = h.Merge("main", "b")
	expectRefused(t, "merged already", v, e, api.ErrState, h, before)
	expectNumber(t, merge(t, h, "b", "main"), 5)
	expectHeads(t, h, version.Head{Name: "b", Version: 5}, version.Head{Name: "main", Version: 4})
	expectInfo(t, h, 4, list(2, 3), 2, 1)
	expectInfo(t, h, 1, nil, 0, 4)
	if h.Size() != 8 {
		t.Error(h.Size())
	}
	expectNumber(t, commit(t, h, "b", "1 0: 1"), 6)
	expectNumber(t, commit(t, h, "main", "1 0: 2"), 7)
	before = h.Copy()
	v, at, e := h.Merge("main", "b")
	expectRefused(t, "a conflict", v, e, api.ErrConflict, h, before)
	if !slices.Equal(at, list(1, 0)) {
		t.Error(at)
	}
	if n, e := h.Reclaim(nil); n != 4 || e != api.OK {
		t.Error(n, e)
	}
	expectVersions(t, h, 4, 6, 7)
	if b, e := h.Base(6, 7); b != 4 || e != api.OK {
		t.Error(b, e)
	}
	expectInfo(t, h, 7, list(4), 4, 1)
	a, e := h.Get(1)
	expectError(t, "reclaimed", a, e, api.ErrStale)
	l, e = h.Diff(6, 9)
	expectChanges(t, "no version", l, e, nil, api.ErrNone)
}

func expectNumber(t *testing.T, number, want int) {
	t.Helper()
	if number != want {
		t.Errorf("the number %d, not %d", number, want)
	}
}

// P8.3

func TestNew(t *testing.T) {
	for _, bad := range spoiled() {
		if h, e := version.New(bad); h != nil || e != api.ErrArg {
			t.Error(h, e)
		}
	}
	for _, a := range []api.Array{parse(table), cells(""), line(api.MaxCells)} {
		h, e := version.New(a)
		if e != api.OK {
			t.Fatal(e)
		}
		expectHeads(t, h, version.Head{Name: "main", Version: 1})
		expectVersions(t, h, 1)
		expectGet(t, h, 1, a)
		expectInfo(t, h, 1, nil, 0, len(a.Cells))
	}
	one, two := made(parse(table)), made(parse(table))
	commit(t, one, "main", "0 0: 6")
	expectVersions(t, two, 1)
}

func TestCommit(t *testing.T) {
	h := made(parse(table))
	branch(t, h, "b", 1)
	commit(t, h, "b", "0 0: 6; 1 1:")
	before := h.Copy()
	for _, x := range []struct {
		what, branch string
		head         int
		l            string
		want         api.Errno
	}{
		{"no branch", "c", 1, "0 0: 6", api.ErrName},
		{"no name of a branch", "", 0, "9 9:", api.ErrName},
		{"no branch, and an old head", "B", 7, "9 9:", api.ErrName},
		{"the head of another branch", "main", 2, "0 0: 6", api.ErrStale},
		{"an old head", "b", 1, "9 9:", api.ErrStale},
		{"no version", "b", 3, "0 0: 7", api.ErrStale},
		{"no version", "b", 0, "0 0: 7", api.ErrStale},
		{"a version below 0", "b", -1 << 63, "0: 7", api.ErrStale},
		{"too few coordinates", "b", 2, "0: 7", api.ErrShape},
		{"coordinates that are not there", "b", 2, "0 0: 6; 4 0:", api.ErrRange},
		{"a value of another type", "b", 2, "0 0: true", api.ErrType},
		{"twice the same", "b", 2, "0 0: 6; 0 0: 6", api.ErrHave},
		{"no changes", "b", 2, "", api.ErrState},
		{"what is so already", "b", 2, "0 0: 6; 1 1:; 2 0:; 3 1: 2", api.ErrState},
	} {
		v, e := h.Commit(x.branch, x.head, changes(x.l))
		expectRefused(t, x.what, v, e, x.want, h, before)
	}
	expectNumber(t, commit(t, h, "b", "0 0: 6; 1 1: ?2; 3 1:"), 3)
	expectHeads(t, h, version.Head{Name: "b", Version: 3}, version.Head{Name: "main", Version: 1})
	expectInfo(t, h, 3, list(2), 2, 2) // one of the three changes nothing
	expectGet(t, h, 3, cells("0 0: 6\n1 0: 7\n1 1: ?2\n"))
	expectGet(t, h, 2, cells("0 0: 6\n1 0: 7\n3 1: 2\n"))
	expectGet(t, h, 1, parse(table))
	expectNumber(t, commit(t, h, "main", "0 0: 9"), 4)
	expectInfo(t, h, 4, list(1), 1, 1)

	h = made(line(api.MaxCells))
	before = h.Copy()
	v, e := h.Commit("main", 1, changes("9000: 1"))
	expectRefused(t, "a cell too many", v, e, api.ErrMany, h, before)
}

func TestMaxVersions(t *testing.T) {
	h := made(parse(table))
	branch(t, h, "b", 1)
	commit(t, h, "b", "1 0: 1; 3 1: 5")
	for k := 3; k <= version.MaxVersions; k++ {
		expectNumber(t, commit(t, h, "main", "0 0: "+strconv.Itoa(k+100)), k)
	}
	before := h.Copy()
	for l, want := range map[string]api.Errno{"0 0: 1": api.ErrFull, "0 0: 200": api.ErrState, "": api.ErrState, "4 0:": api.ErrRange} {
		v, e := h.Commit("main", version.MaxVersions, changes(l))
		expectRefused(t, l, v, e, want, h, before)
	}
	for _, x := range []struct {
		into, from string
		want       api.Errno
	}{{"main", "b", api.ErrFull}, {"b", "main", api.ErrFull}, {"b", "b", api.ErrState}, {"b", "c", api.ErrName}} {
		v, at, e := h.Merge(x.into, x.from)
		expectRefused(t, x, v, e, x.want, h, before)
		if len(at) > 0 {
			t.Error(at)
		}
	}
	if n, e := h.Reclaim(list(50)); n != 96 || e != api.OK { // 1 is the base of both heads
		t.Error(n, e)
	}
	expectVersions(t, h, 1, 2, 50, 100)
	expectNumber(t, commit(t, h, "main", "1 0: 9"), 101)
	expectInfo(t, h, 101, list(100), 100, 1)
	expectNumber(t, commit(t, h, "b", "1 0: 9"), 102)
	for k := range version.MaxVersions - 6 {
		commit(t, h, "main", "0 0: "+strconv.Itoa(k))
	}
	v, at, e := h.Merge("main", "b")
	if v != 0 || e != api.ErrFull || len(at) > 0 {
		t.Error("the same changes, and no room", v, at, e)
	}
	if n, e := h.Reclaim(list(101)); n != 96 || e != api.OK {
		t.Error(n, e)
	}
	commit(t, h, "main", "3 1: 6")
	for len(h.Versions()) < version.MaxVersions {
		commit(t, h, "main", "0 0: "+strconv.Itoa(len(h.Versions())+500))
	}
	v, at, e = h.Merge("main", "b")
	if v != 0 || e != api.ErrConflict || !slices.Equal(at, list(3, 1)) {
		t.Error("a conflict, and no room", v, at, e)
	}
}

// P8.4

func TestBranchAndDrop(t *testing.T) {
	h := made(parse(table))
	commit(t, h, "main", "0 0: 6")
	commit(t, h, "main", "0 0: 7")
	if n, e := h.Reclaim(list(1)); n != 1 || e != api.OK {
		t.Fatal(n, e)
	}
	for _, name := range []string{"h", "g_1", "b2", "b", "b10", "abcdefghijkl"} {
		branch(t, h, name, 1)
	}
	before := h.Copy()
	refused := func(name string, v int, want api.Errno) {
		t.Helper()
		expectRefused(t, name, 0, h.Branch(name, v), want, h, before)
	}
	for _, name := range []string{"", "B", "1a", "_a", "a-b", "ab ", "abcdefghijklm"} {
		refused(name, 1, api.ErrName)
		refused(name, 9, api.ErrName)
	}
	refused("main", 1, api.ErrHave)
	refused("b", 9, api.ErrHave)
	refused("c", 0, api.ErrNone)
	refused("c", 4, api.ErrNone)
	refused("c", -1<<63, api.ErrNone)
	refused("c", 2, api.ErrStale)
	branch(t, h, "c", 3)
	before = h.Copy()
	refused("d", 1, api.ErrFull)
	refused("d", 2, api.ErrStale)
	refused("d", 4, api.ErrNone)
	refused("c", 1, api.ErrHave)
	var want []version.Head
	for _, name := range []string{"abcdefghijkl", "b", "b10", "b2", "c", "g_1", "h", "main"} {
		want = append(want, version.Head{Name: name, Version: map[bool]int{true: 3, false: 1}[name == "c" || name == "main"]})
	}
	expectHeads(t, h, want...)

	expectRefused(t, "no branch", 0, h.Drop("d"), api.ErrName, h, before)
	expectRefused(t, "no name", 0, h.Drop(""), api.ErrName, h, before)
	for _, x := range want[1:] {
		if e := h.Drop(x.Name); e != api.OK {
			t.Error(x, e)
		}
	}
	expectHeads(t, h, want[0])
	expectVersions(t, h, 1, 3)
	before = h.Copy()
	expectRefused(t, "the only one", 0, h.Drop("abcdefghijkl"), api.ErrState, h, before)
	expectRefused(t, "dropped before", 0, h.Drop("main"), api.ErrName, h, before)
	branch(t, h, "main", 3)
	expectGet(t, h, 3, cells("0 0: 7\n1 0: 7\n1 1: ?1\n3 1: 2\n"))
}

// P8.5

func TestMerge(t *testing.T) {
	h := made(parse(table))
	branch(t, h, "b", 1)
	before := h.Copy()
	for _, x := range []struct {
		into, from string
		want       api.Errno
	}{
		{"main", "c", api.ErrName}, {"c", "main", api.ErrName}, {"c", "c", api.ErrName}, {"", "", api.ErrName},
		{"main", "b", api.ErrState}, {"b", "main", api.ErrState}, {"b", "b", api.ErrState},
	} {
		v, at, e := h.Merge(x.into, x.from)
		expectRefused(t, x, v, e, x.want, h, before)
		if len(at) > 0 {
			t.Error(at)
		}
	}
	commit(t, h, "b", "0 0: 6")
	before = h.Copy()
	v, _, e := h.Merge("b", "main")
	expectRefused(t, "an ancestor", v, e, api.ErrState, h, before)
	expectNumber(t, merge(t, h, "main", "b"), 3) // main has not changed: its merge has the array of b
	expectInfo(t, h, 3, list(1, 2), 1, 1)
	expectGet(t, h, 3, cells("0 0: 6\n1 0: 7\n1 1: ?1\n3 1: 2\n"))
	expectNumber(t, merge(t, h, "b", "main"), 4)
	expectInfo(t, h, 4, list(2, 3), 2, 0) // and this one the array of both
	expectHeads(t, h, version.Head{Name: "b", Version: 4}, version.Head{Name: "main", Version: 3})
	expectNumber(t, merge(t, h, "main", "b"), 5)
	expectInfo(t, h, 5, list(3, 4), 3, 0)
	// Both make the same change, and one more each.
	commit(t, h, "main", "1 0:; 2 0: 1")
	commit(t, h, "b", "1 0:; 2 1: 1")
	expectNumber(t, merge(t, h, "main", "b"), 8)
	expectGet(t, h, 8, cells("0 0: 6\n1 1: ?1\n2 0: 1\n2 1: 1\n3 1: 2\n"))
	expectInfo(t, h, 8, list(6, 7), 6, 1)
	// Only what came behind the newest base counts.
	commit(t, h, "b", "2 1: 2")
	commit(t, h, "main", "2 1: 2")
	merge(t, h, "b", "main")
	commit(t, h, "main", "2 1: 3")
	merge(t, h, "b", "main")
	expectGet(t, h, head(h, "b"), cells("0 0: 6\n1 1: ?1\n2 0: 1\n2 1: 3\n3 1: 2\n"))
	commit(t, h, "main", "0 0: 1; 2 1: 4")
	commit(t, h, "b", "0 0: 2; 2 1: 5")
	before = h.Copy()
	for _, l := range [][2]string{{"main", "b"}, {"b", "main"}} {
		v, at, e := h.Merge(l[0], l[1])
		expectRefused(t, l, v, e, api.ErrConflict, h, before)
		if !slices.Equal(at, list(0, 0)) {
			t.Error(at)
		}
		at[0] = 99
	}
}

func TestMergeMany(t *testing.T) {
	h := made(line(api.MaxCells - 1))
	branch(t, h, "b", 1)
	commit(t, h, "main", "9000: 1")
	commit(t, h, "b", "9001: 1; 1: 1; 2: 0")
	before := h.Copy()
	v, at, e := h.Merge("main", "b")
	expectRefused(t, "a cell too many", v, e, api.ErrMany, h, before)
	if len(at) > 0 {
		t.Error(at)
	}
	commit(t, h, "b", "1:; 2: 1")
	merge(t, h, "main", "b")
	commit(t, h, "b", "9002: 1")
	before = h.Copy()
	v, _, e = h.Merge("main", "b")
	expectRefused(t, "a cell too many behind a merge", v, e, api.ErrMany, h, before)
}
