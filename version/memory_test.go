package version_test

import (
	"slices"
	"testing"

	"tesseract/api"
	"tesseract/version"
)

// R3

func TestNotATree(t *testing.T) {
	copied := *made(parse(table))
	for k, h := range []*version.Tree{nil, {}, new(version.Tree), &copied} {
		v, e := h.Commit("none", 7, changes("9 9:"))
		if v != 0 || e != api.ErrNil {
			t.Error(k, v, e)
		}
		v, at, e := h.Merge("none", "none")
		if v != 0 || len(at) != 0 || e != api.ErrNil {
			t.Error(k, v, at, e)
		}
		for _, e := range []api.Errno{h.Branch("B", 7), h.Branch("b", 1), h.Drop("none"), h.Drop("main")} {
			if e != api.ErrNil {
				t.Error(k, e)
			}
		}
		for _, v := range list(0, 1, 9) {
			n, e := h.Reclaim(list(v))
			if n != 0 || e != api.ErrNil {
				t.Error(k, n, e)
			}
			a, e := h.Get(v)
			expectError(t, k, a, e, api.ErrNil)
			l, e := h.Diff(v, 1)
			expectChanges(t, k, l, e, nil, api.ErrNil)
			if b, e := h.Base(v, v); b != 0 || e != api.ErrNil {
				t.Error(k, b, e)
			}
			if i, e := h.Info(v); e != api.ErrNil || len(i.Parents) != 0 || i.Support != 0 || i.Changes != 0 {
				t.Error(k, i, e)
			}
		}
		if len(h.Heads()) != 0 || len(h.Versions()) != 0 || h.Size() != 0 || h.Copy() != nil {
			t.Error(k, "zero values")
		}
	}
}

func TestNotAPyramid(t *testing.T) {
	p, _ := version.Build(parse(table), list(2, 2), 1, countOf("n"))
	copied := *p
	for k, p := range []*version.Pyramid{nil, {}, new(version.Pyramid), &copied} {
		for _, l := range []string{"", "0 0: 1", "9 9:"} {
			if n, e := p.Change(changes(l)); n != 0 || e != api.ErrNil {
				t.Error(k, n, e)
			}
		}
		for _, i := range list(-1, 0, 1, 2) {
			a, e := p.Level(i)
			expectError(t, k, a, e, api.ErrNil)
		}
	}
}

// R5

// roomy returns a copy of a list with filled elements behind its end.
func roomy[E any](l []E, fill E) []E {
	out := make([]E, len(l), len(l)+3)
	copy(out, l)
	for k := len(l); k < cap(out); k++ {
		out[:cap(out)][k] = fill
	}
	return out
}

// spoil overwrites all elements of a list, also those behind its end.
func spoil[E any](l []E, with E) {
	l = l[:cap(l)]
	for k := range l {
		l[k] = with
	}
}

// roomyArray and roomyChanges return copies whose slices have filled elements behind their ends.
func roomyArray(a api.Array) api.Array {
	a = api.Array{Dims: roomy(a.Dims, dim("behind", 0, 0)), Attrs: roomy(a.Attrs, api.Attr{Name: "behind"}), Cells: roomy(a.Cells, api.Cell{At: list(2, 1), Vals: vals(num(77))})}
	for k, c := range a.Cells {
		a.Cells[k] = api.Cell{At: roomy(c.At, -99), Vals: roomy(c.Vals, none(99))}
	}
	return a
}

func roomyChanges(l []api.Change) []api.Change {
	l = roomy(l, to(list(2, 1), num(77)))
	for k, c := range l {
		l[k] = api.Change{At: roomy(c.At, -99), Vals: roomy(c.Vals, none(99))}
	}
	return l
}

// spoilArray and spoilChanges overwrite all memory.
func spoilArray(a api.Array) {
	for _, c := range a.Cells {
		spoil(c.At, -77)
		spoil(c.Vals, none(99))
	}
	spoil(a.Dims, dim("spoiled", 0, 0))
	spoil(a.Attrs, api.Attr{})
	spoil(a.Cells, api.Cell{})
}

func spoilChanges(l []api.Change) {
	for _, c := range l {
		spoil(c.At, -77)
		spoil(c.Vals, none(99))
	}
	spoil(l, api.Change{})
}

// expectRoomy checks that an array that was an argument is as it was, also behind the ends of its slices.
func expectRoomy(t *testing.T, a, want api.Array) {
	t.Helper()
	same := sameArray(a, want) && slices.Equal(a.Dims[:cap(a.Dims)], roomy(want.Dims, dim("behind", 0, 0))[:cap(a.Dims)])
	for _, c := range a.Cells {
		same = same && c.At[:cap(c.At)][len(c.At)] == -99 && c.Vals[:cap(c.Vals)][len(c.Vals)] == none(99)
	}
	if behind := a.Cells[:cap(a.Cells)][len(a.Cells)]; !same || !slices.Equal(behind.At, list(2, 1)) || !slices.Equal(behind.Vals, vals(num(77))) {
		t.Error("an argument was changed", a)
	}
}

// expectRoomyChanges does the same for changes.
func expectRoomyChanges(t *testing.T, l, want []api.Change) {
	t.Helper()
	same := sameChanges(l, want)
	for _, c := range l {
		same = same && c.At[:cap(c.At)][len(c.At)] == -99 && c.Vals[:cap(c.Vals)][len(c.Vals)] == none(99)
	}
	if behind := l[:cap(l)][len(l)]; !same || !slices.Equal(behind.At, list(2, 1)) || !slices.Equal(behind.Vals, vals(num(77))) {
		t.Error("an argument was changed", l)
	}
}

const (
	some     = "3 1:; 0 0: 6; 2 0: 1"
	withSome = "0 0: 6\n1 0: 7\n1 1: ?1\n2 0: 1\n"
)

func TestMemoryOfChanges(t *testing.T) {
	a, b, l := roomyArray(parse(table)), roomyArray(cells(withSome)), roomyChanges(changes(some))
	same := []api.Change{{At: list(0, 0), Vals: vals(num(6))}, {At: list(2, 0), Vals: vals(num(1))}, {At: list(3, 1)}}
	for range 2 { // what the first calls returned is overwritten before the second ones
		c, e := version.Apply(a, l)
		expectArray(t, "Apply", c, e, cells(withSome))
		d, e := version.Delta(a, b)
		expectChanges(t, "Delta", d, e, same, api.OK)
		x, _, e := version.Merged(a, b, a)
		expectArray(t, "Merged", x, e, cells(withSome))
		y, at, e := version.Merged(a, b, must(version.Apply(a, changes("0 0: 9"))))
		expectError(t, "Merged", y, e, api.ErrConflict)
		if !slices.Equal(at, list(0, 0)) {
			t.Error(at)
		}
		spoil(at, -77)
		spoilArray(c)
		spoilChanges(d)
		spoilArray(x)
		expectRoomy(t, a, parse(table))
		expectRoomy(t, b, cells(withSome))
		expectRoomyChanges(t, l, changes(some))
	}
}

func TestMemoryOfTrees(t *testing.T) {
	a, l, keep, names := roomyArray(parse(table)), roomyChanges(changes(some)), roomy(list(1), 99), "main"
	h := made(a)
	expectRoomy(t, a, parse(table))
	spoilArray(a)
	if v, e := h.Commit(names, 1, l); v != 2 || e != api.OK {
		t.Fatal(v, e)
	}
	expectRoomyChanges(t, l, changes(some))
	spoilChanges(l)
	branch(t, h, "b", 1)
	commit(t, h, "b", "1 0: 1")
	merge(t, h, "b", "main")
	if n, e := h.Reclaim(keep); n != 1 || e != api.OK || !slices.Equal(keep[:cap(keep)], list(1, 99, 99, 99)) {
		t.Error(n, e, keep[:cap(keep)])
	}
	spoil(keep, 2)
	for range 2 {
		for v, want := range map[int]string{1: "0 0: 5\n1 0: 7\n1 1: ?1\n3 1: 2\n", 2: withSome, 4: "0 0: 6\n1 0: 1\n1 1: ?1\n2 0: 1\n"} {
			x, e := h.Get(v)
			expectArray(t, v, x, e, cells(want))
			spoilArray(x)
		}
		d, e := h.Diff(1, 2)
		expectChanges(t, "Diff", d, e, changes("0 0: 6; 2 0: 1; 3 1:"), api.OK)
		spoilChanges(d)
		d, e = h.Diff(2, 1)
		expectChanges(t, "Diff", d, e, changes("0 0: 5; 2 0:; 3 1: 2"), api.OK)
		spoilChanges(d)
		i, _ := h.Info(4)
		if !slices.Equal(i.Parents, list(3, 2)) {
			t.Error(i)
		}
		spoil(i.Parents, 99)
		expectHeads(t, h, version.Head{Name: "b", Version: 4}, version.Head{Name: "main", Version: 2})
		spoil(h.Heads(), version.Head{})
		expectVersions(t, h, 1, 2, 4)
		spoil(h.Versions(), 99)
	}
}

func TestCopy(t *testing.T) {
	h := made(parse(table))
	commit(t, h, "main", "0 0: 6")
	branch(t, h, "b", 1)
	old := h.Copy()
	again := old.Copy()
	if !sameTree(h, old) || !sameTree(old, again) {
		t.Error("a copy is another tree")
	}
	commit(t, h, "b", "1 0: 1")
	commit(t, old, "b", "1 0: 2")
	merge(t, h, "main", "b")
	if e := old.Drop("main"); e != api.OK {
		t.Error(e)
	}
	if n, e := old.Reclaim(nil); n != 2 || e != api.OK {
		t.Error(n, e)
	}
	branch(t, old, "c", 3)
	expectVersions(t, h, 1, 2, 3, 4)
	expectHeads(t, h, version.Head{Name: "b", Version: 3}, version.Head{Name: "main", Version: 4})
	expectGet(t, h, 3, cells("0 0: 5\n1 0: 1\n1 1: ?1\n3 1: 2\n"))
	expectVersions(t, old, 3)
	expectHeads(t, old, version.Head{Name: "b", Version: 3}, version.Head{Name: "c", Version: 3})
	expectGet(t, old, 3, cells("0 0: 5\n1 0: 2\n1 1: ?1\n3 1: 2\n"))
	expectVersions(t, again, 1, 2)
	expectHeads(t, again, version.Head{Name: "b", Version: 1}, version.Head{Name: "main", Version: 2})
	expectNumber(t, commit(t, again, "main", "0 0: 7"), 3)
}

func TestMemoryOfPyramids(t *testing.T) {
	a, l, factors, aggs := roomyArray(parse(table)), roomyChanges(changes(some)), roomy(list(2, 2), 99), roomy(countOf("n"), api.Agg{Fn: api.Sum, Attr: "v", As: "behind"})
	p, e := version.Build(a, factors, 2, aggs)
	if e != api.OK {
		t.Fatal(e)
	}
	if n, e := p.Change(l); n != 3 || e != api.OK {
		t.Error(n, e)
	}
	expectRoomy(t, a, parse(table))
	expectRoomyChanges(t, l, changes(some))
	if !slices.Equal(factors[:cap(factors)], list(2, 2, 99, 99, 99)) || len(aggs) != 1 || aggs[0] != countOf("n")[0] || aggs[:2][1].As != "behind" {
		t.Error("an argument was changed", factors, aggs)
	}
	spoilArray(a)
	spoilChanges(l)
	spoil(factors, 1)
	spoil(aggs, api.Agg{})
	x := peak{cells(withSome), list(2, 2), 2, countOf("n")}
	for range 2 {
		x.compares(t, p)
		for k := range 3 {
			b, _ := p.Level(k)
			spoilArray(b)
		}
	}
	if n, e := p.Change(changes("0 0:; 3 1: 4")); n != 3 || e != api.OK {
		t.Error(n, e)
	}
	x.a = cells("1 0: 7\n1 1: ?1\n2 0: 1\n3 1: 4\n")
	x.compares(t, p)
}
