package algebra_test

import (
	"slices"
	"testing"

	"tesseract/algebra"
	"tesseract/api"
	"tesseract/space"
)

// P4.12

// specRedim is the redimension of an array, by the names of its cells.
func specRedim(a api.Array, dims []api.Dim, attrs []string, rule int) (api.Array, api.Errno) {
	if rule < 1 || rule > 3 {
		return api.Array{}, api.ErrArg
	}
	typeOf := func(name string) int {
		for _, x := range a.Attrs {
			if x.Name == name {
				return x.Type
			}
		}
		if hasDim(a, name) {
			return api.TInt
		}
		return 0
	}
	for _, d := range dims {
		if typeOf(d.Name) == 0 {
			return api.Array{}, api.ErrName
		}
		if typeOf(d.Name) != api.TInt {
			return api.Array{}, api.ErrType
		}
	}
	var to []api.Attr
	for _, name := range attrs {
		if typeOf(name) == 0 {
			return api.Array{}, api.ErrName
		}
		to = append(to, attr(name, typeOf(name)))
	}
	if e := space.Schema(dims, to); e != api.OK {
		return api.Array{}, e
	}
	var l []record
	for _, r := range records(a) {
		moved, inside := specMoved(r, dims)
		if !inside {
			continue
		}
		k := slices.IndexFunc(l, func(x record) bool {
			return !slices.ContainsFunc(dims, func(d api.Dim) bool { return x.at[d.Name] != moved.at[d.Name] })
		})
		switch {
		case k < 0:
			l = append(l, moved)
		case rule == api.Fail:
			return api.Array{}, api.ErrConflict
		case rule == api.Last:
			l[k] = moved
		}
	}
	return ofRecords(dims, to, l), api.OK
}

// specMoved returns a record with all that a record has as values, and coordinates along new dimensions; false if it has none.
func specMoved(r record, dims []api.Dim) (record, bool) {
	out := record{map[string]int{}, map[string]api.Val{}}
	for name, x := range r.at {
		out.vals[name] = num(int64(x))
	}
	for name, v := range r.vals {
		out.vals[name] = v
	}
	for _, d := range dims {
		v := out.vals[d.Name]
		if v.Kind != api.KNum || v.N < int64(d.Lo) || v.N > int64(d.Hi) || v.N > api.MaxCoord {
			return record{}, false
		}
		out.at[d.Name] = int(v.N)
	}
	return out, true
}

func TestRedim(t *testing.T) {
	a := parse(table)
	v, y := dim("v", 0, 9), dim("y", 0, 1)
	b, e := algebra.Redim(a, dims(v), names("x"), api.Fail)
	expectString(t, "example", b, e, "dim v 0:9\nattr x int\n2: 3\n5: 0\n7: 1\n")
	b, e = algebra.Redim(a, dims(y), names("v"), api.Fail)
	expectError(t, "a conflict", b, e, api.ErrConflict)
	b, e = algebra.Redim(a, dims(y), names("v"), api.First)
	expectString(t, "the first ones", b, e, "dim y 0:1\nattr v int\n0: 5\n1: ?1\n")
	b, e = algebra.Redim(a, dims(y), names("v"), api.Last)
	expectString(t, "the last ones", b, e, "dim y 0:1\nattr v int\n0: 7\n1: 2\n")
	b, e = algebra.Redim(a, dims(dim("y", 2, 5)), names("v"), api.Fail)
	expectString(t, "cells that are left out do not conflict", b, e, "dim y 2:5\nattr v int\n")
	b, e = algebra.Redim(a, dims(y, v), names("x"), api.Fail)
	expectString(t, "the missing value is left out", b, e, "dim y 0:1\ndim v 0:9\nattr x int\n0 5: 0\n0 7: 1\n1 2: 3\n")
	b, e = algebra.Redim(a, dims(dim("x", 1, 3)), names("y", "v"), api.Last)
	expectString(t, "other bounds", b, e, "dim x 1:3\nattr y int\nattr v int\n1: 1, ?1\n3: 1, 2\n")
	b, e = algebra.Redim(a, dims(dim("v", 2, 5)), names("y"), api.Fail)
	expectString(t, "both bounds", b, e, "dim v 2:5\nattr y int\n2: 1\n5: 0\n")
	far := parse("dim x 0:9\nattr v int\nattr w text\n0: 1099511627776, 'a'\n1: -1, 'b'\n2: 1073741824, 'c'\n3: 1073741825, 'd'\n4: -1073741824, 'e'\n5: -1099511627776, 'f'\n")
	b, e = algebra.Redim(far, dims(dim("v", -api.MaxCoord, api.Open)), names("w"), api.Fail)
	expectString(t, "open", b, e, "dim v -1073741824:*\nattr w text\n-1073741824: 'e'\n-1: 'b'\n1073741824: 'c'\n")
	b, e = algebra.Redim(far, dims(dim("v", -api.MaxCoord, api.MaxCoord-1)), names("w"), api.Fail)
	expectString(t, "all but the last coordinate", b, e, "dim v -1073741824:1073741823\nattr w text\n-1073741824: 'e'\n-1: 'b'\n")
	three := parse("dim x 0:9\nattr v int\n1: 5\n4: 5\n8: 5\n")
	b, e = algebra.Redim(three, dims(v), names("x"), api.First)
	expectString(t, "the first one of three", b, e, "dim v 0:9\nattr x int\n5: 1\n")
	b, e = algebra.Redim(three, dims(v), names("x"), api.Last)
	expectString(t, "the last one of three", b, e, "dim v 0:9\nattr x int\n5: 8\n")
}

func TestRedimRefuses(t *testing.T) {
	a := parse("dim x 0:3\ndim y 0:3\nattr v int\nattr w rat\nattr t text\nattr b bool\n0 0: 1, 2, 'a', true\n0 1: 1, 2, 'a', true\n")
	for k, x := range []struct {
		dims  []api.Dim
		attrs []string
		rule  int
		want  api.Errno
	}{
		{dims(dim("q", 0, 1)), nil, 0, api.ErrArg},
		{dims(dim("w", 0, 1)), nil, 4, api.ErrArg},
		{nil, nil, -1, api.ErrArg},
		{dims(dim("q", 0, 1)), names("v"), api.Fail, api.ErrName},
		{dims(dim("", 1, 0)), names("v"), api.Fail, api.ErrName},
		{dims(dim("x", 1, 0), dim("q", 0, 1)), names("v"), api.Fail, api.ErrName},
		{dims(dim("w", 0, 1)), names("v"), api.Fail, api.ErrType},
		{dims(dim("t", 0, 1)), names("v"), api.First, api.ErrType},
		{dims(dim("b", 0, 1)), names("v"), api.Last, api.ErrType},
		{dims(dim("w", 0, 1), dim("q", 0, 1)), names("r"), api.Fail, api.ErrType},
		{dims(dim("q", 0, 1), dim("w", 0, 1)), names("r"), api.Fail, api.ErrName},
		{dims(dim("x", 0, 1), dim("w", 0, 1)), names("q"), api.Fail, api.ErrType},
		{dims(dim("x", 0, 1)), names("v", "q"), api.Fail, api.ErrName},
		{dims(dim("x", 1, 0)), names("q"), api.Fail, api.ErrName},
		{nil, names("q"), api.Fail, api.ErrName},
		{nil, names("v"), api.Fail, api.ErrShape},
		{nil, nil, api.Fail, api.ErrShape},
		{dims(dim("x", 0, 1), dim("x", 0, 1), dim("x", 0, 1), dim("x", 0, 1), dim("x", 0, 1)), names("v"), api.Fail, api.ErrShape},
		{dims(dim("x", 0, 1), dim("x", 0, 1)), names("v"), api.Fail, api.ErrName},
		{dims(dim("x", 1, 0)), nil, api.Fail, api.ErrRange},
		{dims(dim("x", 0, api.Open+1)), names("v"), api.Fail, api.ErrRange},
		{dims(dim("x", -api.MaxCoord-1, 0)), names("v"), api.Fail, api.ErrRange},
		{dims(dim("x", 0, 1)), nil, api.Fail, api.ErrMany},
		{dims(dim("x", 0, 1)), names("v", "v", "v", "v", "v", "v", "v"), api.Fail, api.ErrMany},
		{dims(dim("x", 0, 1)), names("v", "v"), api.Fail, api.ErrName},
		{dims(dim("x", 0, 1)), names("v", "x"), api.Fail, api.ErrName},
		{dims(dim("v", 0, 1)), names("v"), api.Fail, api.ErrName},
		{dims(dim("x", 0, 1)), names("v"), api.Fail, api.ErrConflict},
		{dims(dim("v", 0, 1)), names("x"), api.Fail, api.ErrConflict},
	} {
		b, e := algebra.Redim(a, x.dims, x.attrs, x.rule)
		expectError(t, k, b, e, x.want)
	}
}

func TestRedimAgrees(t *testing.T) {
	d := dice(10)
	count := map[api.Errno]int{}
	for range 4000 {
		a := d.some(names("x", "y", "z"), names("u", "v", "w"), 20)
		attrs := shuffled(&d, "x", "y", "z", "u", "v", "w")
		n := d.from(0, min(3, len(attrs)))
		to := d.dims(attrs[:n]...)
		attrs = attrs[n:]
		for k, x := range to {
			if d.next()%4 > 0 {
				to[k] = dim(x.Name, d.from(-4, 2), d.from(2, 6))
			}
		}
		if d.next()%8 == 0 {
			attrs = append(attrs, pick(&d, "x", "u", "q"))
		}
		rule := d.from(0, 12)/4 + 1
		b, e := algebra.Redim(a, to, attrs, rule)
		want, f := specRedim(a, to, attrs, rule)
		expect(t, []any{schemaOf(a), to, attrs, rule}, b, e, want, f)
		count[e]++
	}
	for _, e := range []api.Errno{api.OK, api.ErrArg, api.ErrName, api.ErrType, api.ErrConflict} {
		if count[e] < 20 {
			t.Error("too few results of this kind were tested:", e, count[e])
		}
	}
}

func TestRedimMany(t *testing.T) {
	a := line("x", "v", api.MaxCells)
	b, e := algebra.Redim(a, dims(dim("v", 0, api.Open)), names("x"), api.Fail)
	if e != api.OK || len(b.Cells) != api.MaxCells {
		t.Error(e, len(b.Cells))
	}
	for k := range a.Cells {
		a.Cells[k].Vals[0] = num(int64(-k) % 7)
	}
	b, e = algebra.Redim(a, dims(dim("v", -9, 0)), names("x"), api.Last)
	expectString(t, "many cells at the same coordinates", b, e, "dim v -9:0\nattr x int\n-6: 4094\n-5: 4093\n-4: 4092\n-3: 4091\n-2: 4090\n-1: 4089\n0: 4095\n")
}
