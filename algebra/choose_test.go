package algebra_test

import (
	"slices"
	"testing"

	"tesseract/algebra"
	"tesseract/api"
	"tesseract/space"
)

// P4.4

func TestSubarray(t *testing.T) {
	a := parse(table)
	b, e := algebra.Subarray(a, list(1, 0), list(9, 0))
	expectString(t, "example", b, e, "dim x 1:3\ndim y 0:0\nattr v int\n1 0: 7\n")
	b, e = algebra.Subarray(a, list(-5, -5), list(2, 9))
	expectString(t, "lower bounds", b, e, "dim x 0:2\ndim y 0:1\nattr v int\n0 0: 5\n1 0: 7\n1 1: ?1\n")
	b, e = algebra.Subarray(a, list(2, 0), list(2, 1))
	expectString(t, "no cells", b, e, "dim x 2:2\ndim y 0:1\nattr v int\n")
	b, e = algebra.Subarray(a, list(farNumbers[0], farNumbers[0]), list(farNumbers[5], farNumbers[5]))
	expectString(t, "all", b, e, table)
	open := parse("dim x -2:*\nattr v bool\n-1: true\n1073741824: false\n")
	b, e = algebra.Subarray(open, list(0), list(api.Open))
	expectString(t, "open", b, e, "dim x 0:*\nattr v bool\n1073741824: false\n")
	b, e = algebra.Subarray(open, list(-9), list(farNumbers[5]))
	expectString(t, "without a bound", b, e, "dim x -2:*\nattr v bool\n-1: true\n1073741824: false\n")
	b, e = algebra.Subarray(open, list(api.MaxCoord), list(api.MaxCoord))
	expectString(t, "the last coordinate", b, e, "dim x 1073741824:1073741824\nattr v bool\n1073741824: false\n")
	b, e = algebra.Subarray(open, list(api.MaxCoord), list(api.Open+7))
	expectString(t, "from the last coordinate on", b, e, "dim x 1073741824:*\nattr v bool\n1073741824: false\n")
}

func TestSubarrayRefuses(t *testing.T) {
	a, open := parse(table), parse("dim x -2:*\nattr v bool\n")
	for k, x := range []struct {
		a      api.Array
		lo, hi []int
		want   api.Errno
	}{
		{a, nil, nil, api.ErrShape},
		{a, list(0), list(0), api.ErrShape},
		{a, list(0, 0), list(0), api.ErrShape},
		{a, list(0), list(0, 0), api.ErrShape},
		{a, list(9, 9, 9), list(0, 0, 0), api.ErrShape},
		{a, list(9), list(0, 0), api.ErrShape},
		{a, list(4, 0), list(9, 1), api.ErrRange},
		{a, list(0, 0), list(3, -1), api.ErrRange},
		{a, list(2, 0), list(1, 1), api.ErrRange},
		{a, list(0, farNumbers[5]), list(9, 9), api.ErrRange},
		{a, list(0, 0), list(farNumbers[0], 9), api.ErrRange},
		{a, list(api.Open, 0), list(api.Open, 1), api.ErrRange},
		{open, list(api.Open), list(api.Open), api.ErrRange},
		{open, list(api.Open), list(farNumbers[5]), api.ErrRange},
		{open, list(farNumbers[5]), list(farNumbers[5]), api.ErrRange},
		{open, list(-9), list(-3), api.ErrRange},
		{open, list(6), list(5), api.ErrRange},
	} {
		b, e := algebra.Subarray(x.a, x.lo, x.hi)
		expectError(t, k, b, e, x.want)
	}
	for k, x := range spoiled() {
		b, e := algebra.Subarray(x, list(0), list(0, 0, 0))
		expectError(t, k, b, e, api.ErrArg)
	}
}

func TestSubarrayAgrees(t *testing.T) {
	d := dice(1)
	for range 2000 {
		a := d.some(names("x", "y", "z"), names("u", "v"), 20)
		var lo, hi []int
		bounds, want := slices.Clone(a.Dims), api.OK
		for k, x := range a.Dims {
			l := x.Lo + pick(&d, d.from(-2, 2), d.from(-2, 2), -api.MaxCoord, api.MaxCoord)
			h := pick(&d, l+d.from(0, 3), x.Hi+d.from(-1, 1), api.Open, farNumbers[5])
			lo, hi = append(lo, l), append(hi, h)
			bounds[k].Lo, bounds[k].Hi = max(x.Lo, l), min(x.Hi, h)
			if bounds[k].Lo > bounds[k].Hi || bounds[k].Lo > api.MaxCoord {
				want = api.ErrRange
			}
		}
		l := slices.DeleteFunc(records(a), func(r record) bool {
			return slices.ContainsFunc(bounds, func(x api.Dim) bool { return r.at[x.Name] < x.Lo || r.at[x.Name] > x.Hi })
		})
		b, e := algebra.Subarray(a, lo, hi)
		if want != api.OK {
			expectError(t, lo, b, e, want)
			continue
		}
		expect(t, lo, b, e, ofRecords(bounds, a.Attrs, l), api.OK)
	}
}

// P4.5

func TestFilter(t *testing.T) {
	a := parse(table)
	b, e := algebra.Filter(a, above("v", 2))
	expectString(t, "example", b, e, "dim x 0:3\ndim y 0:1\nattr v int\n0 0: 5\n1 0: 7\n")
	b, e = algebra.Filter(a, op(api.SNot, above("v", 2)))
	expectString(t, "the opposite", b, e, "dim x 0:3\ndim y 0:1\nattr v int\n3 1: 2\n")
	b, e = algebra.Filter(a, op(api.SMissing, use("v")))
	expectString(t, "missing", b, e, "dim x 0:3\ndim y 0:1\nattr v int\n1 1: ?1\n")
	b, e = algebra.Filter(a, op(api.SLt, along("y"), along("x")))
	expectString(t, "coordinates", b, e, "dim x 0:3\ndim y 0:1\nattr v int\n1 0: 7\n3 1: 2\n")
	b, e = algebra.Filter(a, constant(boolean(true)))
	expectString(t, "all", b, e, table)
	b, e = algebra.Filter(a, constant(boolean(false)))
	expectString(t, "none", b, e, "dim x 0:3\ndim y 0:1\nattr v int\n")
	for k, x := range []struct {
		s    api.Scalar
		want api.Errno
	}{
		{use("v"), api.ErrType},
		{constant(txt("true")), api.ErrType},
		{constant(num(1)), api.ErrType},
		{op(api.SNot, use("v")), api.ErrType},
		{use("x"), api.ErrName},
		{op(api.SAdd, use("q"), use("v")), api.ErrName},
	} {
		b, e := algebra.Filter(a, x.s)
		expectError(t, k, b, e, x.want)
	}
	for k, x := range formless() {
		b, e := algebra.Filter(a, x.s)
		expectError(t, k, b, e, x.want)
	}
}

func TestFilterAgrees(t *testing.T) {
	d := dice(2)
	for range 1000 {
		a := d.some(names("x", "y", "z"), names("u", "v", "w"), 20)
		s := d.scalar(a, pick(&d, api.TBool, api.TBool, api.TBool, api.TInt), d.from(1, 4))
		typ, want := specType(a, s)
		if want == api.OK && typ != api.TBool {
			want = api.ErrType
		}
		b, e := algebra.Filter(a, s)
		if want != api.OK {
			expectError(t, s, b, e, want)
			continue
		}
		l := slices.DeleteFunc(records(a), func(r record) bool { return specValue(s, r) != boolean(true) })
		expect(t, s, b, e, ofRecords(a.Dims, a.Attrs, l), api.OK)
	}
}

func TestApply(t *testing.T) {
	a := parse(table)
	b, e := algebra.Apply(a, "w", op(api.SAdd, along("x"), use("v")))
	expectString(t, "example", b, e, "dim x 0:3\ndim y 0:1\nattr v int\nattr w int\n0 0: 5, 5\n1 0: 7, 8\n1 1: ?1, ?1\n3 1: 2, 5\n")
	b, e = algebra.Apply(a, "abcdefghi_12", op(api.SDiv, use("v"), along("x")))
	expectString(t, "quotients", b, e, "dim x 0:3\ndim y 0:1\nattr v int\nattr abcdefghi_12 rat\n0 0: 5, ?3\n1 0: 7, 7\n1 1: ?1, ?1\n3 1: 2, 2/3\n")
	b, e = algebra.Apply(b, "t", op(api.SIf, above("v", 5), constant(txt("'")), constant(txt(""))))
	expectString(t, "texts", b, e, "dim x 0:3\ndim y 0:1\nattr v int\nattr abcdefghi_12 rat\nattr t text\n0 0: 5, ?3, ''\n1 0: 7, 7, ''''\n1 1: ?1, ?1, ?1\n3 1: 2, 2/3, ''\n")
	for _, name := range names("x", "y", "v", "", "W", "1", "_", "w-", "ä", "abcdefghi_123") {
		b, e := algebra.Apply(a, name, nested(13))
		expectError(t, name, b, e, api.ErrName)
	}
	for k, x := range formless() {
		b, e := algebra.Apply(a, "w", x.s)
		expectError(t, k, b, e, x.want)
	}
	for k, x := range []struct {
		s    api.Scalar
		want api.Errno
	}{{use("w"), api.ErrName}, {along("v"), api.ErrName}, {op(api.SNot, use("v")), api.ErrType}} {
		b, e := algebra.Apply(a, "w", x.s)
		expectError(t, k, b, e, x.want)
	}
	six := a
	for _, name := range names("a", "b", "c", "d", "e") {
		six, e = algebra.Apply(six, name, along("x"))
		if e != api.OK || len(six.Attrs) > api.MaxAttrs {
			t.Fatal(name, e)
		}
	}
	b, e = algebra.Apply(six, "w", api.Scalar{})
	expectError(t, "seven attributes", b, e, api.ErrMany)
	b, e = algebra.Apply(six, "e", api.Scalar{})
	expectError(t, "seven attributes with the same name", b, e, api.ErrName)
}

func TestApplyAgrees(t *testing.T) {
	d := dice(3)
	for range 1000 {
		a := d.some(names("x", "y", "z"), names("u", "v", "w"), 12)
		s := d.scalar(a, d.from(api.TBool, api.TText), d.from(1, 4))
		typ, want := specType(a, s)
		b, e := algebra.Apply(a, "n", s)
		if want != api.OK {
			expectError(t, s, b, e, want)
			continue
		}
		l := records(a)
		for k, r := range l {
			l[k].vals["n"] = specValue(s, r)
		}
		expect(t, s, b, e, ofRecords(a.Dims, append(slices.Clone(a.Attrs), attr("n", typ)), l), api.OK)
	}
}

// P4.6

func TestProject(t *testing.T) {
	a := parse("dim x 0:3\nattr u int\nattr v text\nattr w bool\n0: 1, 'a', true\n2: ?1, ?2, ?3\n3: -1, '', false\n")
	b, e := algebra.Project(a, names("w", "u"))
	expectString(t, "two", b, e, "dim x 0:3\nattr w bool\nattr u int\n0: true, 1\n2: ?3, ?1\n3: false, -1\n")
	b, e = algebra.Project(a, names("v"))
	expectString(t, "one", b, e, "dim x 0:3\nattr v text\n0: 'a'\n2: ?2\n3: ''\n")
	b, e = algebra.Project(a, names("u", "v", "w"))
	expect(t, "all", b, e, a, api.OK)
	for _, l := range [][]string{{"x"}, {"q"}, {""}, {"u", "u"}, {"u", "v", "u"}, {"u", "v", "w", "u"}, {"u", "v", "w", "x"}, {"w", "v", "q", "u"}, slices.Repeat(names("u"), 100000)} {
		b, e := algebra.Project(a, l)
		expectError(t, l[0], b, e, api.ErrName)
	}
	for _, l := range [][]string{nil, {}} {
		b, e := algebra.Project(a, l)
		expectError(t, "no names", b, e, api.ErrArg)
	}
	d := dice(4)
	for range 500 {
		a := d.some(names("x", "y"), names("u", "v", "w", "p", "q"), 12)
		some := shuffled(&d, "u", "v", "w", "p", "q")
		var attrs []api.Attr
		for _, name := range some {
			for _, x := range a.Attrs {
				if x.Name == name {
					attrs = append(attrs, x)
				}
			}
		}
		b, e := algebra.Project(a, some)
		if len(attrs) < len(some) {
			expectError(t, some, b, e, api.ErrName)
			continue
		}
		expect(t, some, b, e, ofRecords(a.Dims, attrs, records(a)), api.OK)
	}
}

func TestRename(t *testing.T) {
	a := parse(table)
	b, e := algebra.Rename(a, "x", "u")
	expectString(t, "the first dimension", b, e, "dim u 0:3\ndim y 0:1\nattr v int\n0 0: 5\n1 0: 7\n1 1: ?1\n3 1: 2\n")
	b, e = algebra.Rename(a, "y", "abcdefghi_12")
	expectString(t, "the last dimension", b, e, "dim x 0:3\ndim abcdefghi_12 0:1\nattr v int\n0 0: 5\n1 0: 7\n1 1: ?1\n3 1: 2\n")
	b, e = algebra.Rename(a, "v", "z")
	expectString(t, "an attribute", b, e, "dim x 0:3\ndim y 0:1\nattr z int\n0 0: 5\n1 0: 7\n1 1: ?1\n3 1: 2\n")
	wide := parse("dim x 0:3\nattr u int\nattr v text\nattr w bool\n0: 1, 'a', true\n")
	b, e = algebra.Rename(wide, "v", "z")
	expectString(t, "the second attribute", b, e, "dim x 0:3\nattr u int\nattr z text\nattr w bool\n0: 1, 'a', true\n")
	for _, name := range names("x", "y", "v") {
		b, e = algebra.Rename(a, name, name)
		expectString(t, name, b, e, table)
	}
	for _, x := range [][2]string{{"q", "r"}, {"", "r"}, {"q", "q"}, {"", ""}, {"x", "y"}, {"x", "v"}, {"v", "x"}, {"v", ""}, {"v", "1"}, {"x", "X"}, {"x", "abcdefghi_123"}, {"x", "a b"}} {
		b, e = algebra.Rename(a, x[0], x[1])
		expectError(t, x, b, e, api.ErrName)
	}
}

// R8, for the operations of this file and the next ones
func TestNotValid(t *testing.T) {
	a := parse(table)
	for k, x := range spoiled() {
		for _, c := range calls() {
			b, e := c.run(x, c.b)
			expectError(t, c.what, b, e, api.ErrArg)
			if c.two {
				b, e := c.run(c.a, x)
				expectError(t, c.what, b, e, api.ErrArg)
			}
		}
		for _, f := range []func() (api.Array, api.Errno){
			func() (api.Array, api.Errno) { return algebra.Filter(x, nested(13)) },
			func() (api.Array, api.Errno) { return algebra.Apply(x, "", nested(13)) },
			func() (api.Array, api.Errno) { return algebra.Project(x, names("q")) },
			func() (api.Array, api.Errno) { return algebra.Rename(x, "", "") },
			func() (api.Array, api.Errno) { return algebra.Reshape(x, nil) },
			func() (api.Array, api.Errno) { return algebra.Transpose(x, nil) },
			func() (api.Array, api.Errno) { return algebra.Concat(x, a, "q") },
			func() (api.Array, api.Errno) { return algebra.Concat(a, x, "q") },
			func() (api.Array, api.Errno) { return algebra.Redim(x, nil, names("q"), api.Fail) },
		} {
			b, e := f()
			expectError(t, k, b, e, api.ErrArg)
		}
	}
}

// R5
func TestMemory(t *testing.T) {
	for _, c := range calls() {
		want := must(c.run(roomyArray(c.a), roomyArray(c.b)))
		a, b := roomyArray(c.a), roomyArray(c.b)
		got, e := c.run(a, b)
		expect(t, c.what, got, e, want, api.OK)
		if len(got.Cells) == 0 {
			t.Error(c.what, "no cells")
		}
		apart(t, c.what, got)
		if !sameRoom(a, c.a) || !sameRoom(b, c.b) {
			t.Error(c.what, "an argument has changed, or shares memory with the result")
		}
	}
	a := parse(table)
	d, n := dims(dim("y", 0, 3), dim("x", 0, 1)), names("v", "x")
	for k, f := range []func() (api.Array, api.Errno){
		func() (api.Array, api.Errno) { return algebra.Reshape(a, d) },
		func() (api.Array, api.Errno) { return algebra.Redim(a, d, n[:1], api.First) },
		func() (api.Array, api.Errno) { return algebra.Project(a, n[:1]) },
		func() (api.Array, api.Errno) { return algebra.Subarray(a, list(0, 0), list(9, 9)) },
	} {
		b := must(f())
		spoil(b.Dims, dim("spoiled", 0, 0))
		if !slices.Equal(d, dims(dim("y", 0, 3), dim("x", 0, 1))) || !slices.Equal(n, names("v", "x")) {
			t.Error(k, "the result shares memory with an argument, or this has changed")
		}
	}
	if s, _ := space.Print(a); s != table {
		t.Error("an argument has changed")
	}
}

// P0: arguments of any size
func TestFarNumbers(t *testing.T) {
	a := parse(table)
	for _, x := range farNumbers {
		for _, y := range farNumbers {
			b, e := algebra.Subarray(a, list(x, 0), list(y, 1))
			if x < 0 && y > 0 {
				expectString(t, x, b, e, table)
			} else {
				expectError(t, x, b, e, api.ErrRange)
			}
			b, e = algebra.Reshape(a, dims(dim("z", x, y)))
			expectError(t, x, b, e, api.ErrRange)
			b, e = algebra.Redim(a, dims(dim("v", x, y)), names("x"), api.First)
			expectError(t, x, b, e, api.ErrRange)
			b, e = algebra.Redim(a, dims(dim("v", x, y)), names("x"), x)
			expectError(t, x, b, e, api.ErrArg)
		}
	}
}
