package agg_test

import (
	"slices"
	"testing"

	"tesseract/agg"
	"tesseract/api"
)

// a call is an operation with an array, for which it has no error, and with lists that it must neither change nor keep.
type call struct {
	what string
	a    api.Array
	run  func(a api.Array, s lists) (api.Array, api.Errno)
}

// lists are the other arguments of an operation.
type lists struct {
	dims          []api.Dim
	before, after []int
	names         []string
	aggs          []api.Agg
}

// calls returns calls of all operations.
func calls() []call {
	a := parse("dim x -3:3\ndim y 0:1\nattr v int\nattr w text\nattr u rat\n-2 1: 4, 'a', 1/2\n0 0: 5, 'a', 1/2\n0 1: 5, ?1, 1/3\n2 1: ?9, 'b', ?1\n3 0: 1, 'c', 3\n")
	return []call{
		{"group", a, func(a api.Array, s lists) (api.Array, api.Errno) { return agg.Group(a, s.dims, s.aggs) }},
		{"group by its own dimensions", a, func(a api.Array, s lists) (api.Array, api.Errno) { return agg.Group(a, a.Dims, s.aggs) }},
		{"regrid", a, func(a api.Array, s lists) (api.Array, api.Errno) { return agg.Regrid(a, s.before, s.aggs) }},
		{"window", a, func(a api.Array, s lists) (api.Array, api.Errno) { return agg.Window(a, s.before, s.after, s.aggs) }},
		{"vary", a, func(a api.Array, s lists) (api.Array, api.Errno) { return agg.Vary(a, "x", 1, 1, s.aggs) }},
		{"cumulate", a, func(a api.Array, s lists) (api.Array, api.Errno) { return agg.Cumulate(a, "x", s.aggs) }},
		{"rank", a, func(a api.Array, s lists) (api.Array, api.Errno) { return agg.Rank(a, "u", s.names, "r") }},
	}
}

// arguments returns the other arguments, each list with elements behind its end.
func arguments() lists {
	return lists{
		dims:   roomy(dims(dim("v", 0, 9), dim("y", 0, 1)), dim("behind", 0, 0)),
		before: roomy(list(2, 1), -99), after: roomy(list(1, 1), -99),
		names: roomy(names("y"), "behind"),
		aggs:  roomy(aggs(of(api.Sum, "v", "a1"), of(api.Distinct, "w", "a2"), countOf("a3"), of(api.Min, "u", "a4")), countOf("behind")),
	}
}

// sameLists reports whether two lists of arguments are the same, also behind the ends.
func sameLists(a, b lists) bool {
	return sameRoom(a.dims, b.dims) && sameRoom(a.before, b.before) && sameRoom(a.after, b.after) && sameRoom(a.names, b.names) && sameRoom(a.aggs, b.aggs)
}

// sameRoom reports whether two lists have the same elements, also behind their ends.
func sameRoom[E comparable](a, b []E) bool {
	return len(a) == len(b) && slices.Equal(a[:cap(a)], b[:cap(b)])
}

// roomy returns a copy of a list with elements behind its end, all of them filled.
func roomy[E any](l []E, fill E) []E {
	out := make([]E, len(l), len(l)+3)
	copy(out, l)
	spoil(out[len(l):], fill)
	return out
}

// spoil overwrites all elements of a list, also those behind its end.
func spoil[E any](l []E, with E) {
	l = l[:cap(l)]
	for k := range l {
		l[k] = with
	}
}

// roomyArray returns a copy of an array whose slices all have filled elements behind their ends.
func roomyArray(a api.Array) api.Array {
	out := api.Array{Dims: roomy(a.Dims, dim("behind", 0, 0)), Attrs: roomy(a.Attrs, attr("behind", 1)), Cells: roomy(a.Cells, cell(list(-99)))}
	for k, c := range out.Cells {
		out.Cells[k] = cell(roomy(c.At, -99), roomy(c.Vals, txt("behind"))...)
	}
	return out
}

// sameRoomArray reports whether two arrays are the same, also behind the ends.
func sameRoomArray(a, b api.Array) bool {
	same := sameRoom(a.Dims, b.Dims) && sameRoom(a.Attrs, b.Attrs) && sameCells(a.Cells[:cap(a.Cells)], b.Cells[:cap(b.Cells)])
	for k := range a.Cells {
		same = same && sameRoom(a.Cells[k].At, b.Cells[k].At) && sameRoom(a.Cells[k].Vals, b.Cells[k].Vals)
	}
	return same
}

// spoilArray overwrites all memory of an array, differently for each cell, and checks that its slices share none.
func spoilArray(t *testing.T, what string, a api.Array) {
	t.Helper()
	for k, c := range a.Cells {
		spoil(c.At, k)
		spoil(c.Vals, num(int64(k)))
	}
	for k, c := range a.Cells {
		if slices.ContainsFunc(c.At, func(x int) bool { return x != k }) || slices.ContainsFunc(c.Vals, func(v api.Val) bool { return v != num(int64(k)) }) {
			t.Fatal(what, "cells of the result share memory")
		}
	}
	spoil(a.Dims, dim("spoiled", 0, 0))
	spoil(a.Attrs, attr("spoiled", 1))
	spoil(a.Cells, api.Cell{})
}

// R5, R9

func TestMemory(t *testing.T) {
	for _, c := range calls() {
		a, s := roomyArray(c.a), arguments()
		want := must(c.run(c.a, arguments()))
		b, e := c.run(a, s)
		expect(t, c.what, b, e, want, api.OK)
		if len(b.Cells) == 0 {
			t.Error(c.what, "nothing to test")
		}
		other := must(c.run(a, s))
		spoilArray(t, c.what, b)
		if !sameRoomArray(a, roomyArray(c.a)) || !sameLists(s, arguments()) {
			t.Fatal(c.what, "an argument changed, or shares memory with the result")
		}
		spoilArray(t, c.what, a)
		spoil(s.dims, dim("spoiled", 0, 0))
		spoil(s.before, -7)
		spoil(s.after, -7)
		spoil(s.names, "spoiled")
		spoil(s.aggs, api.Agg{})
		expect(t, c.what, other, api.OK, want, api.OK)
	}
}

// R4

func TestNilAndEmpty(t *testing.T) {
	a := parse(table)
	a.Cells = []api.Cell{}
	for _, c := range calls()[2:6] {
		b, e := c.run(a, lists{before: list(1, 1), after: list(1, 1), aggs: aggs(countOf("n"))})
		expectString(t, c.what, b, e, "dim x 0:3\ndim y 0:1\nattr n int\n")
	}
	b, e := agg.Rank(parse(table), "v", []string{}, "r")
	expect(t, "rank", b, e, must(agg.Rank(parse(table), "v", nil, "r")), api.OK)
}

// R8

func TestNotValid(t *testing.T) {
	for _, a := range spoiled() {
		for _, c := range calls() {
			for _, s := range []lists{arguments(), {}} {
				b, e := c.run(a, s)
				expectError(t, c.what, b, e, api.ErrArg)
			}
		}
		b, e := agg.Vary(a, "q", -1, 65, nil)
		expectError(t, "vary", b, e, api.ErrArg)
		b, e = agg.Cumulate(a, "q", nil)
		expectError(t, "cumulate", b, e, api.ErrArg)
		b, e = agg.Rank(a, "q", names("q"), "")
		expectError(t, "rank", b, e, api.ErrArg)
	}
}

// The schema of a result, and all errors, depend on the schema of the operand alone.
func TestSchemas(t *testing.T) {
	for _, c := range calls() {
		with, without := must(c.run(c.a, arguments())), must(c.run(api.Array{Dims: c.a.Dims, Attrs: c.a.Attrs}, arguments()))
		if !slices.Equal(with.Dims, without.Dims) || !slices.Equal(with.Attrs, without.Attrs) || len(without.Cells) != 0 {
			t.Error(c.what, "the schema of the result depends on the cells")
		}
	}
}
