package agg_test

import (
	"testing"

	"tesseract/agg"
	"tesseract/api"
)

// P5.5

// specWindow is Window, as the chapter says it.
func specWindow(a api.Array, before, after []int, l []api.Agg) (api.Array, api.Errno) {
	if len(before) != len(a.Dims) || len(after) != len(a.Dims) {
		return api.Array{}, api.ErrShape
	}
	for k := range a.Dims {
		if before[k] < 0 || before[k] > 64 || after[k] < 0 || after[k] > 64 {
			return api.Array{}, api.ErrRange
		}
	}
	return specEach(a, l, func(c, other api.Cell) bool {
		for k, x := range other.At {
			if x < c.At[k]-before[k] || x > c.At[k]+after[k] {
				return false
			}
		}
		return true
	})
}

func TestWindow(t *testing.T) {
	a := parse(table)
	b, e := agg.Window(a, list(1, 0), list(0, 0), aggs(of(api.Sum, "v", "s"), of(api.Count, "v", "n")))
	expectString(t, "example", b, e, "dim x 0:3\ndim y 0:1\nattr s int\nattr n int\n0 0: 5, 1\n1 0: 12, 2\n1 1: ?4, 0\n3 1: 2, 1\n")
	b, e = agg.Window(a, list(1, 0), list(1, 0), aggs(of(api.Avg, "v", "m")))
	expectString(t, "the example of the whole", b, e, "dim x 0:3\ndim y 0:1\nattr m rat\n0 0: 6\n1 0: 6\n1 1: ?4\n3 1: 2\n")
	b, e = agg.Window(a, list(0, 0), list(2, 1), aggs(countOf("n"), of(api.Max, "v", "v")))
	expectString(t, "after", b, e, "dim x 0:3\ndim y 0:1\nattr n int\nattr v int\n0 0: 3, 7\n1 0: 3, 7\n1 1: 2, 2\n3 1: 1, 2\n")
	b, e = agg.Window(a, list(2, 1), list(0, 0), aggs(countOf("n"), of(api.Max, "v", "v")))
	expectString(t, "before", b, e, "dim x 0:3\ndim y 0:1\nattr n int\nattr v int\n0 0: 1, 5\n1 0: 2, 7\n1 1: 3, 7\n3 1: 3, 7\n")
	b, e = agg.Window(a, list(64, 64), list(64, 64), aggs(countOf("n")))
	expectString(t, "all", b, e, "dim x 0:3\ndim y 0:1\nattr n int\n0 0: 4\n1 0: 4\n1 1: 4\n3 1: 4\n")
	far := parse("dim x -1073741824:*\nattr v int\n-1073741824: 1\n-1073741760: 2\n-1073741759: 4\n1073741759: 8\n1073741760: 16\n1073741824: 32\n")
	b, e = agg.Window(far, list(64), list(0), aggs(of(api.Sum, "v", "s")))
	expectString(t, "64 before", b, e, "dim x -1073741824:*\nattr s int\n-1073741824: 1\n-1073741760: 3\n-1073741759: 6\n1073741759: 8\n1073741760: 24\n1073741824: 48\n")
	b, e = agg.Window(far, list(0), list(64), aggs(of(api.Sum, "v", "s")))
	expectString(t, "64 after", b, e, "dim x -1073741824:*\nattr s int\n-1073741824: 3\n-1073741760: 6\n-1073741759: 4\n1073741759: 24\n1073741760: 48\n1073741824: 32\n")
	b, e = agg.Window(api.Array{Dims: a.Dims, Attrs: a.Attrs}, list(1, 1), list(1, 1), aggs(of(api.Avg, "v", "m")))
	expectString(t, "no cells", b, e, "dim x 0:3\ndim y 0:1\nattr m rat\n")
}

func TestWindowAgrees(t *testing.T) {
	d := dice(21)
	for range 3000 {
		a := d.array(30)
		var before, after []int
		for range a.Dims {
			before, after = append(before, pick(&d, 0, 1, 2, 3, 64)), append(after, pick(&d, 0, 1, 2, 3, 64))
		}
		if d.next()%10 == 0 {
			pick(&d, before, after)[0] = pick(&d, -1, 65, farNumbers[0], farNumbers[5])
		}
		l := d.aggs(a)
		want, f := specWindow(a, before, after, l)
		b, e := agg.Window(a, before, after, l)
		expect(t, before, b, e, want, f)
	}
}

func TestWindowRefuses(t *testing.T) {
	a := parse(table)
	one := aggs(countOf("n"))
	for k, x := range []struct {
		before, after []int
		l             []api.Agg
		want          api.Errno
	}{
		{nil, nil, nil, api.ErrShape},
		{list(0), list(0), one, api.ErrShape},
		{list(0, 0), list(0), one, api.ErrShape},
		{list(0), list(0, 0), one, api.ErrShape},
		{list(0, 0, 0), list(0, 0), one, api.ErrShape},
		{list(0, 0), list(0, 0, 0), one, api.ErrShape},
		{list(-1), list(65, 0), nil, api.ErrShape},
		{list(-1, 0), list(0, 0), nil, api.ErrRange},
		{list(0, -1), list(0, 0), one, api.ErrRange},
		{list(0, 65), list(0, 0), one, api.ErrRange},
		{list(0, 0), list(0, -1), one, api.ErrRange},
		{list(0, 0), list(65, 0), one, api.ErrRange},
		{list(0, 0), list(0, farNumbers[0]), one, api.ErrRange},
		{list(farNumbers[5], 0), list(0, 0), one, api.ErrRange},
		{list(64, 64), list(64, 64), nil, api.ErrMany},
		{list(64, 64), list(64, 64), aggs(countOf("y")), api.ErrName},
	} {
		b, e := agg.Window(a, x.before, x.after, x.l)
		expectError(t, k, b, e, x.want)
	}
}

// P5.6

// onLine reports whether two cells are on the same line along the dimension with an index.
func onLine(c, other api.Cell, along int) bool {
	for k, x := range other.At {
		if k != along && x != c.At[k] {
			return false
		}
	}
	return true
}

// specVary is Vary, as the chapter says it.
func specVary(a api.Array, name string, before, after int, l []api.Agg) (api.Array, api.Errno) {
	if !hasDim(a.Dims, name) {
		return api.Array{}, api.ErrName
	}
	if before < 0 || before > 64 || after < 0 || after > 64 {
		return api.Array{}, api.ErrRange
	}
	return specLine(a, name, l, func(steps int) bool { return steps >= -before && steps <= after })
}

// specCumulate is Cumulate, as the chapter says it.
func specCumulate(a api.Array, name string, l []api.Agg) (api.Array, api.Errno) {
	if !hasDim(a.Dims, name) {
		return api.Array{}, api.ErrName
	}
	return specLine(a, name, l, func(steps int) bool { return steps <= 0 })
}

// specLine returns aggregates of those cells of a line that are as many steps from a cell, below 0 before it, as belong to it.
func specLine(a api.Array, name string, l []api.Agg, belong func(steps int) bool) (api.Array, api.Errno) {
	along := 0
	for a.Dims[along].Name != name {
		along++
	}
	place := func(c api.Cell) int { // how many cells precede it in its line
		n := 0
		for _, x := range a.Cells {
			if onLine(c, x, along) && x.At[along] < c.At[along] {
				n++
			}
		}
		return n
	}
	return specEach(a, l, func(c, other api.Cell) bool { return onLine(c, other, along) && belong(place(other)-place(c)) })
}

func TestVary(t *testing.T) {
	a := parse(table)
	b, e := agg.Vary(a, "x", 1, 0, aggs(of(api.Sum, "v", "s")))
	expectString(t, "example", b, e, "dim x 0:3\ndim y 0:1\nattr s int\n0 0: 5\n1 0: 12\n1 1: ?4\n3 1: 2\n")
	b, e = agg.Vary(a, "x", 1, 0, aggs(countOf("n"), of(api.Count, "v", "v")))
	expectString(t, "cells", b, e, "dim x 0:3\ndim y 0:1\nattr n int\nattr v int\n0 0: 1, 1\n1 0: 2, 2\n1 1: 1, 0\n3 1: 2, 1\n")
	b, e = agg.Vary(a, "y", 0, 1, aggs(countOf("n")))
	expectString(t, "along the last dimension", b, e, "dim x 0:3\ndim y 0:1\nattr n int\n0 0: 1\n1 0: 2\n1 1: 1\n3 1: 1\n")
	far := parse("dim x -1073741824:*\nattr v int\n-1073741824: 1\n-5: 2\n-4: 4\n7: 8\n1073741824: 16\n")
	b, e = agg.Vary(far, "x", 1, 2, aggs(of(api.Sum, "v", "s")))
	expectString(t, "far away", b, e, "dim x -1073741824:*\nattr s int\n-1073741824: 7\n-5: 15\n-4: 30\n7: 28\n1073741824: 24\n")
	b, e = agg.Vary(far, "x", 0, 0, aggs(of(api.Sum, "v", "s")))
	expectString(t, "each alone", b, e, "dim x -1073741824:*\nattr s int\n-1073741824: 1\n-5: 2\n-4: 4\n7: 8\n1073741824: 16\n")
	b, e = agg.Vary(line(200), "x", 64, 64, aggs(countOf("n"), of(api.Min, "v", "l"), of(api.Max, "v", "h")))
	for k, c := range b.Cells {
		first, last := max(k-64, 0), min(k+64, 199)
		if c.Vals[0] != num(int64(last-first+1)) || c.Vals[1] != num(int64(first)) || c.Vals[2] != num(int64(last)) {
			t.Error("64 before and after", k, c.Vals)
		}
	}
	if e != api.OK || len(b.Cells) != 200 {
		t.Error(e, len(b.Cells))
	}
}

func TestCumulate(t *testing.T) {
	a := parse(table)
	b, e := agg.Cumulate(a, "y", aggs(countOf("n")))
	expectString(t, "example", b, e, "dim x 0:3\ndim y 0:1\nattr n int\n0 0: 1\n1 0: 1\n1 1: 2\n3 1: 1\n")
	b, e = agg.Cumulate(a, "x", aggs(of(api.Sum, "v", "v"), of(api.Avg, "v", "m")))
	expectString(t, "along the first dimension", b, e, "dim x 0:3\ndim y 0:1\nattr v int\nattr m rat\n0 0: 5, 5\n1 0: 12, 6\n1 1: ?4, ?4\n3 1: 2, 2\n")
	over := parse("dim x 0:*\nattr v int\n0: 1099511627776\n3: 1\n5: ?7\n9: -1\n1073741824: 0\n")
	b, e = agg.Cumulate(over, "x", aggs(of(api.Sum, "v", "s"), of(api.Distinct, "v", "d"), of(api.Min, "v", "l")))
	expectString(t, "a sum that does not fit for a while", b, e, "dim x 0:*\nattr s int\nattr d int\nattr l int\n0: 1099511627776, 1, 1099511627776\n3: ?2, 2, 1\n5: ?2, 2, 1\n9: 1099511627776, 3, -1\n1073741824: 1099511627776, 4, -1\n")
}

func TestLinesAgree(t *testing.T) {
	d := dice(22)
	for range 3000 {
		a := d.array(25)
		name := pick(&d, a.Dims...).Name
		if d.next()%10 == 0 {
			name = pick(&d, "x", "y", "u", "q", "")
		}
		reach := func() int { return pick(&d, 0, 0, 1, 1, 2, 3, 64) }
		before, after := reach(), reach()
		if d.next()%10 == 0 {
			before = pick(&d, -1, 65, farNumbers[0], farNumbers[5])
		}
		l := d.aggs(a)
		want, f := specVary(a, name, before, after, l)
		b, e := agg.Vary(a, name, before, after, l)
		expect(t, "vary", b, e, want, f)
		want, f = specCumulate(a, name, l)
		b, e = agg.Cumulate(a, name, l)
		expect(t, "cumulate", b, e, want, f)
	}
}

func TestLinesRefuse(t *testing.T) {
	a := parse(table)
	one := aggs(countOf("n"))
	for _, name := range names("v", "", "z", "X", "n") {
		b, e := agg.Vary(a, name, -1, 99, nil)
		expectError(t, name, b, e, api.ErrName)
		b, e = agg.Cumulate(a, name, nil)
		expectError(t, name, b, e, api.ErrName)
	}
	for _, n := range append(list(-1, 65), farNumbers...) {
		b, e := agg.Vary(a, "x", n, 0, nil)
		expectError(t, n, b, e, api.ErrRange)
		b, e = agg.Vary(a, "x", 0, n, one)
		expectError(t, n, b, e, api.ErrRange)
	}
	b, e := agg.Vary(a, "y", 64, 64, nil)
	expectError(t, "no aggregates", b, e, api.ErrMany)
	b, e = agg.Cumulate(a, "y", nil)
	expectError(t, "no aggregates", b, e, api.ErrMany)
	b, e = agg.Vary(a, "y", 64, 64, aggs(countOf("y")))
	expectError(t, "the name of a dimension", b, e, api.ErrName)
}

// P5.10

func TestWindows(t *testing.T) {
	d := dice(23)
	for range 1500 {
		a := d.array(30)
		l := d.aggs(a)
		zeros := make([]int, len(a.Dims))
		alone, e := specEach(a, l, func(c, other api.Cell) bool { return &c.At[0] == &other.At[0] })
		b, f := agg.Window(a, zeros, zeros, l)
		expect(t, "each alone", b, f, alone, e)
		b, f = agg.Group(a, a.Dims, l)
		expect(t, "group", b, f, alone, e)
		for _, x := range a.Dims {
			some, e := agg.Cumulate(a, x.Name, l)
			b, f := agg.Vary(a, x.Name, 64, 0, l)
			expect(t, "cumulate", b, f, some, e)
			b, f = agg.Vary(a, x.Name, 0, 0, l)
			expect(t, "vary", b, f, alone, e)
		}
	}
}

func TestLongLines(t *testing.T) {
	l := aggs(countOf("n"), of(api.Min, "v", "l"), of(api.Sum, "v", "s"))
	for n := 60; n <= 70; n++ {
		a := must(agg.Cumulate(line(n), "x", l))
		b := must(agg.Vary(line(n), "x", 64, 0, l))
		if sameArray(a, b) != (n <= 65) {
			t.Error("Cumulate and Vary of a line with", n, "cells")
		}
	}
}
