package agg_test

import (
	"slices"
	"testing"

	"tesseract/agg"
	"tesseract/api"
	"tesseract/exact"
	"tesseract/space"
)

// P5.7

// specRank is Rank, as the chapter says it.
func specRank(a api.Array, name string, l []string, as string) (api.Array, api.Errno) {
	if attrType(a, name) == 0 {
		return api.Array{}, api.ErrName
	}
	for k, x := range l {
		if !hasDim(a.Dims, x) || slices.Contains(l[:k], x) {
			return api.Array{}, api.ErrName
		}
	}
	if !space.Name(as) || hasDim(a.Dims, as) || attrType(a, as) != 0 {
		return api.Array{}, api.ErrName
	}
	if len(a.Attrs) == 6 {
		return api.Array{}, api.ErrMany
	}
	var cells []api.Cell
	for _, c := range a.Cells {
		r := valueOf(a, c, name)
		if r.Kind != api.KMissing {
			n := int64(1)
			for _, other := range a.Cells {
				v := valueOf(a, other, name)
				if together(a, c, other, l) && v.Kind != api.KMissing && exact.Order(v, valueOf(a, c, name)) < 0 {
					n++
				}
			}
			r = num(n)
		}
		cells = append(cells, cell(c.At, append(slices.Clone(c.Vals), r)...))
	}
	return made(a.Dims, append(slices.Clone(a.Attrs), attr(as, api.TInt)), cells), api.OK
}

// together reports whether two cells have the same coordinates along some dimensions.
func together(a api.Array, c, other api.Cell, l []string) bool {
	for k, x := range a.Dims {
		if slices.Contains(l, x.Name) && c.At[k] != other.At[k] {
			return false
		}
	}
	return true
}

func TestRank(t *testing.T) {
	a := parse(table)
	b, e := agg.Rank(a, "v", nil, "r")
	expectString(t, "example", b, e, "dim x 0:3\ndim y 0:1\nattr v int\nattr r int\n0 0: 5, 2\n1 0: 7, 3\n1 1: ?1, ?1\n3 1: 2, 1\n")
	b, e = agg.Rank(a, "v", names("y"), "abcdefghi_12")
	expectString(t, "along y", b, e, "dim x 0:3\ndim y 0:1\nattr v int\nattr abcdefghi_12 int\n0 0: 5, 1\n1 0: 7, 2\n1 1: ?1, ?1\n3 1: 2, 1\n")
	b, e = agg.Rank(a, "v", names("y", "x"), "r")
	expectString(t, "each alone", b, e, "dim x 0:3\ndim y 0:1\nattr v int\nattr r int\n0 0: 5, 1\n1 0: 7, 1\n1 1: ?1, ?1\n3 1: 2, 1\n")
	wide := parse("dim x 0:9\nattr s text\nattr v rat\nattr b bool\n0: 'b', 1/2, true\n1: 'a', 1/3, false\n2: ?9, ?200, ?3\n3: 'a', 1/2, true\n4: 'ab', -1/2, false\n5: '', 1, ?4\n")
	b, e = agg.Rank(wide, "s", nil, "r")
	expectString(t, "texts", b, e, "dim x 0:9\nattr s text\nattr v rat\nattr b bool\nattr r int\n0: 'b', 1/2, true, 5\n1: 'a', 1/3, false, 2\n2: ?9, ?200, ?3, ?9\n3: 'a', 1/2, true, 2\n4: 'ab', -1/2, false, 4\n5: '', 1, ?4, 1\n")
	b, e = agg.Rank(wide, "v", nil, "r")
	expectString(t, "numbers", b, e, "dim x 0:9\nattr s text\nattr v rat\nattr b bool\nattr r int\n0: 'b', 1/2, true, 3\n1: 'a', 1/3, false, 2\n2: ?9, ?200, ?3, ?200\n3: 'a', 1/2, true, 3\n4: 'ab', -1/2, false, 1\n5: '', 1, ?4, 5\n")
	b, e = agg.Rank(wide, "b", nil, "r")
	expectString(t, "Booleans", b, e, "dim x 0:9\nattr s text\nattr v rat\nattr b bool\nattr r int\n0: 'b', 1/2, true, 3\n1: 'a', 1/3, false, 1\n2: ?9, ?200, ?3, ?3\n3: 'a', 1/2, true, 3\n4: 'ab', -1/2, false, 1\n5: '', 1, ?4, ?4\n")
	b, e = agg.Rank(api.Array{Dims: a.Dims, Attrs: a.Attrs}, "v", names("x"), "r")
	expectString(t, "no cells", b, e, "dim x 0:3\ndim y 0:1\nattr v int\nattr r int\n")
}

func TestRankAgrees(t *testing.T) {
	d := dice(31)
	for range 3000 {
		a := d.array(25)
		name := pick(&d, a.Attrs...).Name
		var l []string
		for _, x := range shuffled(&d, a.Dims)[:d.from(0, len(a.Dims))] {
			l = append(l, x.Name)
		}
		as := "n"
		if d.next()%8 == 0 {
			name, as = pick(&d, name, "x", "q"), pick(&d, as, "x", "u", "N")
			l = append(l, pick(&d, "x", "y", "u", "q"))
		}
		want, f := specRank(a, name, l, as)
		b, e := agg.Rank(a, name, l, as)
		expect(t, l, b, e, want, f)
	}
}

func TestRankRefuses(t *testing.T) {
	a := parse(table)
	six := parse("dim x 0:3\ndim y 0:1\nattr a int\nattr b int\nattr c int\nattr d int\nattr e int\nattr v int\n1 0: 1, 2, 3, 4, 5, 6\n")
	for k, x := range []struct {
		a    api.Array
		attr string
		dims []string
		as   string
		want api.Errno
	}{
		{a, "x", nil, "r", api.ErrName},
		{a, "q", nil, "r", api.ErrName},
		{a, "", nil, "r", api.ErrName},
		{a, "v", names("v"), "r", api.ErrName},
		{a, "v", names("q"), "r", api.ErrName},
		{a, "v", names(""), "r", api.ErrName},
		{a, "v", names("x", "x"), "r", api.ErrName},
		{a, "v", names("x", "y", "x"), "r", api.ErrName},
		{a, "v", names("x", "y", "v"), "r", api.ErrName},
		{a, "v", slices.Repeat(names("x"), 100000), "r", api.ErrName},
		{a, "v", nil, "", api.ErrName},
		{a, "v", nil, "R", api.ErrName},
		{a, "v", nil, "abcdefghi_123", api.ErrName},
		{a, "v", nil, "x", api.ErrName},
		{a, "v", nil, "y", api.ErrName},
		{a, "v", nil, "v", api.ErrName},
		{six, "v", nil, "r", api.ErrMany},
		{six, "a", names("y", "x"), "r", api.ErrMany},
		{six, "v", nil, "e", api.ErrName},
		{six, "v", nil, "y", api.ErrName},
		{six, "v", nil, "R", api.ErrName},
		{six, "v", names("x", "x"), "r", api.ErrName},
		{six, "q", nil, "r", api.ErrName},
	} {
		b, e := agg.Rank(x.a, x.attr, x.dims, x.as)
		expectError(t, k, b, e, x.want)
	}
	six.Attrs = six.Attrs[1:]
	six.Cells[0].Vals = six.Cells[0].Vals[1:]
	b, e := agg.Rank(six, "v", names("y"), "a")
	expectString(t, "the sixth attribute", b, e, "dim x 0:3\ndim y 0:1\nattr b int\nattr c int\nattr d int\nattr e int\nattr v int\nattr a int\n1 0: 2, 3, 4, 5, 6, 1\n")
}

// P5.11

func TestRanks(t *testing.T) {
	d := dice(32)
	pairs := 0
	for range 1000 {
		a := d.array(25)
		a.Attrs = a.Attrs[:min(len(a.Attrs), 5)]
		for k := range a.Cells {
			a.Cells[k].Vals = a.Cells[k].Vals[:len(a.Attrs)]
		}
		l := names(a.Dims[0].Name)[:d.from(0, 1)]
		by := d.from(0, len(a.Attrs)-1)
		b := must(agg.Rank(a, a.Attrs[by].Name, l, "n"))
		for _, c := range b.Cells {
			v, r := c.Vals[by], c.Vals[len(a.Attrs)]
			if v.Kind == api.KMissing {
				if r != v {
					t.Fatal("the rank of a missing value", v, r)
				}
				continue
			}
			least := r
			for _, other := range b.Cells {
				w, s := other.Vals[by], other.Vals[len(a.Attrs)]
				if w.Kind == api.KMissing || !together(a, c, other, l) {
					continue
				}
				if exact.Order(v, w) != exact.Order(r, s) {
					t.Fatal("the ranks of two values", v, w, r, s)
				}
				if s.N < least.N {
					least = s
				}
				pairs++
			}
			if least != num(1) {
				t.Fatal("the least rank", least)
			}
		}
	}
	if pairs < 10000 {
		t.Error("too few pairs were tested:", pairs)
	}
}
