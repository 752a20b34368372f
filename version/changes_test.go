package version_test

import (
	"slices"
	"testing"

	"tesseract/api"
	"tesseract/version"
)

// P8.1

func TestDelta(t *testing.T) {
	a := parse(table)
	for _, x := range []struct{ from, to, want string }{
		{"0 0: 5\n1 0: 7\n", "0 0: 5\n1 0: 7\n", ""},
		{"", "", ""},
		{"", "0 0: 5\n1 1: ?1\n", "0 0: 5; 1 1: ?1"},
		{"0 0: 5\n1 1: ?1\n", "", "0 0:; 1 1:"},
		{"0 0: 5\n1 0: 7\n3 1: 2\n", "0 0: 6\n1 1: 7\n3 1: 2\n", "0 0: 6; 1 0:; 1 1: 7"},
		{"1 0: 7\n", "0 1: 7\n3 1: 7\n", "0 1: 7; 1 0:; 3 1: 7"},
		{"0 1: 7\n3 1: 7\n", "1 0: 7\n", "0 1:; 1 0: 7; 3 1:"},
		// A cell whose values are all missing is a cell all the same, and its reason counts.
		{"1 1: ?1\n", "1 1: ?2\n", "1 1: ?2"},
		{"1 1: ?1\n", "", "1 1:"},
	} {
		l, e := version.Delta(cells(x.from), cells(x.to))
		expectChanges(t, x, l, e, changes(x.want), api.OK)
	}
	for _, change := range []func(a *api.Array){
		func(a *api.Array) { a.Dims[1].Hi = 2 },
		func(a *api.Array) { a.Dims[1].Lo = -1 },
		func(a *api.Array) { a.Dims[1].Name = "z" },
		func(a *api.Array) { a.Dims[0], a.Dims[1], a.Cells = a.Dims[1], a.Dims[0], nil },
		func(a *api.Array) { a.Dims, a.Cells = a.Dims[:1], nil },
		func(a *api.Array) { a.Attrs[0].Name = "w" },
		func(a *api.Array) { a.Attrs[0].Type = api.TRat },
		func(a *api.Array) { a.Attrs, a.Cells = append(a.Attrs, api.Attr{Name: "w", Type: api.TInt}), nil },
	} {
		b := parse(table)
		change(&b)
		for _, x := range [][2]api.Array{{a, b}, {b, a}} {
			l, e := version.Delta(x[0], x[1])
			expectChanges(t, b, l, e, nil, api.ErrShape)
		}
	}
	for _, bad := range spoiled() {
		for _, x := range [][2]api.Array{{a, bad}, {bad, a}, {bad, bad}} {
			l, e := version.Delta(x[0], x[1])
			expectChanges(t, bad, l, e, nil, api.ErrArg)
		}
	}
}

func TestApply(t *testing.T) {
	a := parse(table)
	for _, x := range []struct{ changes, want string }{
		{"", "0 0: 5\n1 0: 7\n1 1: ?1\n3 1: 2\n"},
		{"3 1:; 0 0: 6; 2 0: 1; 2 1:", "0 0: 6\n1 0: 7\n1 1: ?1\n2 0: 1\n"},
		{"1 1:; 0 0:; 3 1:; 1 0:", ""},
		{"1 1: ?2; 0 0: ?1", "0 0: ?1\n1 0: 7\n1 1: ?2\n3 1: 2\n"},
		{"3 0: -1; 0 1: 0", "0 0: 5\n0 1: 0\n1 0: 7\n1 1: ?1\n3 0: -1\n3 1: 2\n"},
	} {
		b, e := version.Apply(a, changes(x.changes))
		expectArray(t, x.changes, b, e, cells(x.want))
	}
	two := parse("dim x -2:*\nattr b bool\nattr s text\nattr r rat\n")
	b, e := version.Apply(two, changes("1073741824: true, 'a', 1/2; -2: ?1, 'b', 3"))
	expectArray(t, two, b, e, parse("dim x -2:*\nattr b bool\nattr s text\nattr r rat\n-2: ?1, 'b', 3\n1073741824: true, 'a', 1/2\n"))
}

func TestApplyErrors(t *testing.T) {
	a := parse(table)
	half, truth := api.Val{Kind: api.KNum, N: 1, D: 2}, api.Val{Kind: api.KBool, N: 1}
	for _, x := range []struct {
		what string
		l    []api.Change
		want api.Errno
	}{
		{"no coordinates", []api.Change{to(nil, num(1))}, api.ErrShape},
		{"too few coordinates", []api.Change{to(list(9), half)}, api.ErrShape},
		{"too many coordinates", []api.Change{to(list(0, 0, 0))}, api.ErrShape},
		{"too many values", []api.Change{to(list(9, 9), half, truth)}, api.ErrShape},
		{"before the first coordinate", []api.Change{to(list(-1, 0))}, api.ErrRange},
		{"behind the last coordinate", []api.Change{to(list(0, 2), truth)}, api.ErrRange},
		{"a coordinate far away", []api.Change{to(list(-1<<63, 0), num(1))}, api.ErrRange},
		{"another type", []api.Change{to(list(0, 0), truth)}, api.ErrType},
		{"a number that is no integer", []api.Change{to(list(0, 0), half)}, api.ErrType},
		{"no value", []api.Change{to(list(0, 0), api.Val{})}, api.ErrType},
		{"a number that is not in lowest terms", []api.Change{to(list(0, 0), api.Val{Kind: api.KNum, N: 2, D: 2})}, api.ErrType},
		{"a reason that is none", []api.Change{to(list(0, 0), none(256))}, api.ErrType},
		{"twice the same", []api.Change{to(list(0, 0), num(1)), to(list(0, 1)), to(list(0, 0), num(1))}, api.ErrHave},
		{"twice empty", []api.Change{to(list(2, 0)), to(list(2, 0))}, api.ErrHave},
		{"twice, and an error behind it", []api.Change{to(list(2, 0)), to(list(2, 0)), to(list(0, 0), half)}, api.ErrType},
		{"the first of two errors", []api.Change{to(list(2, 0)), to(list(4, 0)), to(list(0)), to(list(0, 0), half)}, api.ErrRange},
		{"the first of two errors, the other way", []api.Change{to(list(0, 0), half), to(list(0)), to(list(4, 0))}, api.ErrType},
	} {
		b, e := version.Apply(a, x.l)
		expectError(t, x.what, b, e, x.want)
		for _, bad := range spoiled() {
			b, e = version.Apply(bad, x.l)
			expectError(t, x.what, b, e, api.ErrArg)
		}
	}
	wide := api.Array{Dims: a.Dims, Attrs: []api.Attr{{Name: "v", Type: api.TInt}, {Name: "w", Type: api.TText}}}
	for _, x := range []struct {
		l    []api.Val
		want api.Errno
	}{
		{vals(num(1)), api.ErrShape}, {vals(num(1), num(1)), api.ErrType}, {vals(num(1), api.Val{Kind: api.KText, S: "\n"}), api.ErrType}, {vals(none(1), none(2)), api.OK},
	} {
		if _, e := version.Apply(wide, []api.Change{to(list(0, 0), x.l...)}); e != x.want {
			t.Errorf("%v: error %d, not %d", x.l, e, x.want)
		}
	}
	open := parse("dim x 0:*\nattr v int\n")
	for at, want := range map[int]api.Errno{api.MaxCoord: api.OK, api.Open: api.ErrRange, -1: api.ErrRange} {
		if _, e := version.Apply(open, []api.Change{to(list(at), num(1))}); e != want {
			t.Errorf("%d: error %d, not %d", at, e, want)
		}
	}
}

func TestApplyMany(t *testing.T) {
	full := line(api.MaxCells)
	more := to(list(api.MaxCells), num(1))
	b, e := version.Apply(full, []api.Change{more})
	expectError(t, "a cell too many", b, e, api.ErrMany)
	b, e = version.Apply(full, []api.Change{more, more})
	expectError(t, "twice a cell too many", b, e, api.ErrHave)
	b, e = version.Apply(full, []api.Change{more, to(list(17))})
	if e != api.OK || len(b.Cells) != api.MaxCells || b.Cells[17].At[0] != 18 {
		t.Errorf("a cell instead of another one: error %d", e)
	}
	b, e = version.Apply(line(api.MaxCells-1), []api.Change{to(list(api.MaxCells-1), num(api.MaxCells-1))})
	expectArray(t, "the last cell", b, e, full)
	var all []api.Change // more changes than an array has cells
	for k := range 9000 {
		all = append(all, to(list(k)))
	}
	b, e = version.Apply(full, all)
	expectArray(t, "all empty", b, e, line(0))
}

// P8.1 and P8.9

func TestChangesAtRandom(t *testing.T) {
	d := dice(1)
	for range 3000 {
		schema := d.schema()
		a, b := d.array(schema, d.from(0, 9)), d.array(schema, d.from(0, 9))
		if d.next()%2 == 0 {
			b = must(specApply(a, d.changes(a, d.from(0, 5))))
		}
		l, e := version.Delta(a, b)
		expectChanges(t, schema, l, e, specDelta(a, b), api.OK)
		c, e := version.Apply(a, l)
		expectArray(t, schema, c, e, b)
		c, e = version.Apply(a, shuffled(&d, l))
		expectArray(t, schema, c, e, b)
		for k := range l {
			if c, e := version.Apply(a, slices.Delete(slices.Clone(l), k, k+1)); e != api.OK || sameArray(c, b) {
				t.Fatalf("the change %v is not needed: %d", l[k], e)
			}
		}
		any := d.changes(a, d.from(0, 9))
		want, _ := specApply(a, any)
		c, e = version.Apply(a, any)
		expectArray(t, schema, c, e, want)
		bad := d.spoilChanges(a, any)
		want, f := specApply(a, bad)
		c, e = version.Apply(a, bad)
		expect(t, bad, c, e, want, f)
	}
}

// P8.2

func TestMerged(t *testing.T) {
	base := parse(table)
	for _, x := range []struct {
		what, a, b string
		at         []int
		want       string
	}{
		{"nothing", "", "", nil, ""},
		{"one", "0 0: 6; 2 0: 1; 3 1:", "", nil, "0 0: 6; 2 0: 1; 3 1:"},
		{"different coordinates", "0 0: 6; 2 1: 3", "0 1: 4; 3 1:", nil, "0 0: 6; 2 1: 3; 0 1: 4; 3 1:"},
		{"the same changes", "0 0: 6; 1 0:; 2 0: 1", "0 0: 6; 1 0:; 2 0: 1", nil, "0 0: 6; 1 0:; 2 0: 1"},
		{"different values", "1 0: 1", "1 0: 2", list(1, 0), ""},
		{"empty, or a value", "1 0:", "1 0: 2", list(1, 0), ""},
		{"two new cells", "2 0: 1", "2 0: 2", list(2, 0), ""},
		{"two reasons", "1 1: ?2", "1 1: ?3", list(1, 1), ""},
		{"the least of three conflicts", "3 1: 4; 1 1: 1; 2 0: 1; 0 0: 1", "2 0: 2; 0 1: 1; 3 1: 3; 1 1: 2", list(1, 1), ""},
		{"coordinates are compared", "1 0: 1; 0 1: 1", "1 0: 2; 0 1: 2", list(0, 1), ""},
	} {
		a, b := must(specApply(base, changes(x.a))), must(specApply(base, changes(x.b)))
		want, f := must(specApply(base, changes(x.want))), api.OK
		if x.at != nil {
			f = api.ErrConflict
		}
		for _, l := range [][2]api.Array{{a, b}, {b, a}} {
			y, at, e := version.Merged(base, l[0], l[1])
			expect(t, x.what, y, e, want, f)
			if !slices.Equal(at, x.at) {
				t.Errorf("%s: at %v, not %v", x.what, at, x.at)
			}
		}
	}
}

func TestMergedErrors(t *testing.T) {
	a := parse(table)
	other := parse(table)
	other.Dims[0].Hi = 4
	typed := parse(table)
	typed.Attrs[0].Type = api.TRat
	for _, bad := range []api.Array{other, typed} {
		for _, x := range [][3]api.Array{{bad, a, a}, {a, bad, a}, {a, a, bad}, {bad, bad, a}, {a, bad, bad}} {
			y, at, e := version.Merged(x[0], x[1], x[2])
			expectError(t, "other dimensions or types", y, e, api.ErrShape)
			if len(at) > 0 {
				t.Error(at)
			}
		}
	}
	for _, bad := range spoiled() {
		for _, x := range [][3]api.Array{{bad, a, a}, {a, bad, a}, {a, a, bad}, {bad, a, other}, {other, a, bad}} {
			y, at, e := version.Merged(x[0], x[1], x[2])
			expectError(t, "an array that is not valid", y, e, api.ErrArg)
			if len(at) > 0 {
				t.Error(at)
			}
		}
	}
}

func TestMergedMany(t *testing.T) {
	base := line(api.MaxCells - 2)
	one := must(version.Apply(base, changes("9000: 1")))
	two := must(version.Apply(base, changes("9001: 1; 9002: 2")))
	y, at, e := version.Merged(base, one, two)
	expectError(t, "a cell too many", y, e, api.ErrMany)
	if len(at) > 0 {
		t.Error(at)
	}
	both := must(version.Apply(base, changes("9001: 1")))
	y, at, e = version.Merged(base, one, both)
	if e != api.OK || len(at) > 0 || len(y.Cells) != api.MaxCells {
		t.Errorf("as many cells as there can be: error %d", e)
	}
	y, at, e = version.Merged(base, must(version.Apply(one, changes("5: 0"))), must(version.Apply(two, changes("5: 1"))))
	expectError(t, "a conflict, and a cell too many", y, e, api.ErrConflict)
	if !slices.Equal(at, list(5)) {
		t.Error(at)
	}
}

// P8.2 and P8.10

func TestMergesAtRandom(t *testing.T) {
	d := dice(2)
	conflicts := 0
	for range 4000 {
		schema := d.schema()
		base := d.array(schema, d.from(0, 9))
		l, m := d.changes(base, d.from(0, 4)), d.changes(base, d.from(0, 4))
		if len(l) > 0 && d.next()%2 == 0 { // both make the same change
			c := pick(&d, l...)
			m = append(slices.DeleteFunc(m, func(x api.Change) bool { return slices.Equal(x.At, c.At) }), c)
		}
		a, b := must(specApply(base, l)), must(specApply(base, m))
		want, place, f := specMerged(base, a, b)
		for _, x := range [][2]api.Array{{a, b}, {b, a}} {
			y, at, e := version.Merged(base, x[0], x[1])
			expect(t, schema, y, e, want, f)
			if !slices.Equal(at, place) {
				t.Fatalf("at %v, not %v", at, place)
			}
		}
		if f == api.ErrConflict {
			conflicts++
		}
		for _, x := range []struct{ base, a, b, want api.Array }{{base, base, b, b}, {base, b, base, b}, {b, base, base, base}} {
			y, at, e := version.Merged(x.base, x.a, x.b)
			expectArray(t, schema, y, e, x.want)
			if len(at) > 0 {
				t.Fatal(at)
			}
		}
		da, db := specDelta(base, a), specDelta(base, b)
		if !slices.ContainsFunc(da, func(x api.Change) bool {
			return slices.ContainsFunc(db, func(y api.Change) bool { return slices.Equal(x.At, y.At) })
		}) {
			y, _, e := version.Merged(base, a, b)
			expectArray(t, schema, y, e, must(specApply(base, append(da, db...))))
		}
	}
	if conflicts < 400 {
		t.Errorf("%d conflicts", conflicts)
	}
}
