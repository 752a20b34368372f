package algebra_test

import (
	"slices"
	"testing"

	"tesseract/algebra"
	"tesseract/api"
)

// mixed is an array with attributes of all types.
func mixed() api.Array {
	return parse("dim x -2:3\ndim y 1:*\nattr b bool\nattr i int\nattr r rat\nattr t text\n0 1: true, 3, 1/2, 'a'\n0 2: ?7, ?8, ?9, ?10\n3 1073741824: false, -5, 4, ''\n")
}

// nested returns a scalar with some depth.
func nested(depth int) api.Scalar {
	s := use("v")
	for range depth - 1 {
		s = op(api.SNeg, s)
	}
	return s
}

// sumOf returns a scalar with some parts, an odd number, and a small depth.
func sumOf(parts int) api.Scalar {
	if parts == 1 {
		return use("v")
	}
	left := (parts - 1) / 2
	if left%2 == 0 {
		left--
	}
	return op(api.SAdd, sumOf(left), sumOf(parts-1-left))
}

// formless are scalars that are not well-formed, and what Type returns for them.
func formless() []struct {
	s    api.Scalar
	want api.Errno
} {
	type row = struct {
		s    api.Scalar
		want api.Errno
	}
	var out []row
	add := func(want api.Errno, l ...api.Scalar) {
		for _, s := range l {
			out = append(out, row{s, want})
		}
	}
	v := use("v")
	add(api.ErrDeep, nested(13), nested(14), nested(1000), op(api.SAdd, v, nested(12)), op(api.SIf, v, v, op(api.SAdd, v, nested(11))))
	add(api.ErrMany, sumOf(65), op(api.SNeg, sumOf(65)), op(api.SNeg, op(api.SNeg, sumOf(63))), sumOf(2001), op(api.SAdd, make([]api.Scalar, 64)...), api.Scalar{Args: make([]api.Scalar, 100000)})
	add(api.ErrArg, api.Scalar{}, op(-1), op(-1<<40, v), op(23, v), op(1<<40, v, v), op(api.SAdd, make([]api.Scalar, 63)...))
	for n := api.SNot; n <= api.SIf; n++ {
		for count := range 5 {
			if s := op(n, slices.Repeat([]api.Scalar{v}, count)...); count != argsOf(n) {
				add(api.ErrArg, s)
			} else {
				add(api.ErrArg, api.Scalar{Op: n, Name: "v", Args: s.Args}, api.Scalar{Op: n, Val: num(1), Args: s.Args}, api.Scalar{Op: n, Val: api.Val{S: "a"}, Args: s.Args})
			}
		}
	}
	for _, n := range list(api.SAttr, api.SDim) {
		add(api.ErrArg, api.Scalar{Op: n, Name: "v", Val: num(1)}, api.Scalar{Op: n, Name: "v", Val: api.Val{D: 1}}, api.Scalar{Op: n, Name: "v", Args: []api.Scalar{v}})
	}
	add(api.ErrArg, api.Scalar{Op: api.SConst, Val: num(1), Name: "v"}, api.Scalar{Op: api.SConst, Val: num(1), Args: []api.Scalar{v}})
	for _, x := range []api.Val{{}, none(1), none(256), rat(2, 4), rat(1, 0), num(api.MaxNum + 1), {Kind: api.KBool, N: 2}, {Kind: api.KBool, D: 1}, txt("\n"), txt("seventeen bytes a"), {Kind: 4}, {Kind: -1}, {Kind: api.KText, N: 1}} {
		add(api.ErrArg, constant(x), op(api.SNeg, constant(x)), op(api.SIf, v, v, constant(x)))
	}
	// Errors that apply together.
	tooMany := op(api.SAdd, api.Scalar{}, sumOf(63))
	add(api.ErrMany, tooMany)
	add(api.ErrDeep, op(api.SIf, tooMany, api.Scalar{}, nested(12)), op(0, api.Scalar{}, nested(12)), op(api.SAdd, append(make([]api.Scalar, 64), nested(12))...))
	add(api.ErrArg, op(api.SOr, use("q"), constant(none(1))), op(api.SOr, use("v"), op(api.SNot, op(api.SNot))))
	return out
}

// argsOf returns how many arguments an operation has.
func argsOf(n int) int {
	switch {
	case n < api.SNot:
		return 0
	case n <= api.SReason:
		return 1
	case n <= api.SElse:
		return 2
	}
	return 3
}

// P4.1

func TestType(t *testing.T) {
	a := mixed()
	for k, x := range []struct {
		s    api.Scalar
		want int
		e    api.Errno
	}{
		{use("b"), api.TBool, api.OK},
		{use("i"), api.TInt, api.OK},
		{use("r"), api.TRat, api.OK},
		{use("t"), api.TText, api.OK},
		{along("x"), api.TInt, api.OK},
		{along("y"), api.TInt, api.OK},
		{use("x"), 0, api.ErrName},
		{along("i"), 0, api.ErrName},
		{use(""), 0, api.ErrName},
		{along("no name at all"), 0, api.ErrName},
		{constant(boolean(false)), api.TBool, api.OK},
		{constant(num(0)), api.TInt, api.OK},
		{constant(num(-api.MaxNum)), api.TInt, api.OK},
		{constant(rat(1, api.MaxNum)), api.TRat, api.OK},
		{constant(txt("")), api.TText, api.OK},
		{op(api.SDiv, use("i"), constant(num(2))), api.TRat, api.OK},
		{op(api.SAdd, along("x"), use("i")), api.TInt, api.OK},
		{op(api.SAdd, along("x"), use("r")), api.TRat, api.OK},
		{op(api.SIf, use("b"), constant(txt("a")), use("t")), api.TText, api.OK},
		{op(api.SIf, use("i"), constant(txt("a")), use("t")), 0, api.ErrType},
		{op(api.SAnd, use("i"), use("w")), 0, api.ErrName},
		{op(api.SEq, use("i"), constant(txt("a"))), 0, api.ErrType},
		{op(api.SOr, op(api.SNot, use("i")), use("w")), 0, api.ErrType},
		{op(api.SOr, use("w"), op(api.SNot, use("i"))), 0, api.ErrName},
		{op(api.SNot, op(api.SAdd, use("t"), along("w"))), 0, api.ErrName},
		{api.Scalar{Op: api.SAttr, Name: "i", Args: []api.Scalar{}}, api.TInt, api.OK},
	} {
		if got, e := algebra.Type(a, x.s); got != x.want || e != x.e {
			t.Error(k, got, e)
		}
	}
}

func TestTypeAgrees(t *testing.T) {
	d := dice(41)
	for range 3000 {
		a := d.some(names("x", "y", "z"), names("u", "v", "w"), 0)
		b := d.some(names("x", "y", "z"), names("u", "v", "w"), 0) // some of its names and types are those of a
		s := d.scalar(b, d.from(api.TBool, api.TText), d.from(1, 4))
		want, e := specType(a, s)
		if got, f := algebra.Type(a, s); got != want || e != f {
			t.Fatal(a, s, got, f, want, e)
		}
	}
}

func TestTypeRefuses(t *testing.T) {
	a := parse(table)
	for k, x := range formless() {
		if typ, e := algebra.Type(a, x.s); typ != 0 || e != x.want {
			t.Errorf("%d: %d, %d; not %d: %v", k, typ, e, x.want, x.s)
		}
	}
	for k, s := range []api.Scalar{nested(12), sumOf(63), op(api.SNeg, sumOf(63))} {
		if typ, e := algebra.Type(a, s); typ != api.TInt || e != api.OK {
			t.Error(k, typ, e)
		}
	}
	for k, a := range spoiled() {
		for _, s := range []api.Scalar{use("v"), use("q"), nested(13), {}} {
			if typ, e := algebra.Type(a, s); typ != 0 || e != api.ErrArg {
				t.Error(k, typ, e)
			}
		}
	}
}

// Scalars whose slices share memory have very many parts, or do not end.
func TestSharedParts(t *testing.T) {
	a := parse(table)
	loop := []api.Scalar{use("v"), op(api.SNeg)}
	loop[1].Args = loop
	wide := use("v")
	for range api.MaxDepth - 1 {
		wide = op(api.SAdd, slices.Repeat([]api.Scalar{wide}, 50)...)
	}
	for k, x := range []struct {
		s    api.Scalar
		want api.Errno
	}{
		{op(api.SAdd, loop...), api.ErrDeep},
		{loop[1], api.ErrDeep},
		{wide, api.ErrMany},
		{op(api.SNeg, wide), api.ErrDeep},
		{op(api.SAdd, wide, nested(12)), api.ErrDeep},
	} {
		if typ, e := algebra.Type(a, x.s); typ != 0 || e != x.want {
			t.Error(k, typ, e)
		}
		if v, e := algebra.Value(a, x.s, a.Cells[0]); v != (api.Val{}) || e != x.want {
			t.Error(k, v, e)
		}
		b, e := algebra.Filter(a, x.s)
		expectError(t, k, b, e, x.want)
		b, e = algebra.Apply(a, "w", x.s)
		expectError(t, k, b, e, x.want)
		r := algebra.Renamed(x.s, "v", "w")
		if len(algebra.Uses(x.s)) != 0 || algebra.SameScalar(x.s, x.s) || r.Op != 0 || len(r.Args) != 0 {
			t.Error(k, "a scalar that is not well-formed")
		}
	}
}

// P4.2

func TestValue(t *testing.T) {
	a := mixed()
	full := func(at ...int) api.Cell { return cell(at, boolean(true), num(3), rat(1, 2), txt("a")) }
	for k, x := range []struct {
		s    api.Scalar
		c    api.Cell
		want api.Val
	}{
		{use("b"), full(0, 1), boolean(true)},
		{use("t"), full(0, 1), txt("a")},
		{along("x"), full(-2, 9), num(-2)},
		{along("y"), full(3, api.MaxCoord), num(api.MaxCoord)},
		{constant(txt("it's")), full(0, 1), txt("it's")},
		{op(api.SDiv, use("i"), along("x")), full(2, 1), rat(3, 2)},
		{op(api.SDiv, use("i"), along("x")), full(0, 1), none(api.DivZero)},
		{op(api.SMul, along("y"), op(api.SMul, along("y"), use("i"))), full(0, api.MaxCoord), none(api.Over)},
		{op(api.SAdd, use("i"), use("r")), cell(list(0, 1), none(1), none(8), none(9), none(10)), none(8)},
		{op(api.SSub, along("y"), use("i")), full(0, 10), num(7)},
		{op(api.SIf, op(api.SGt, use("i"), along("x")), constant(txt("y")), constant(txt("n"))), full(3, 1), txt("n")},
		{op(api.SIf, use("b"), op(api.SNeg, use("i")), use("i")), full(3, 1), num(-3)},
		{op(api.SElse, use("r"), op(api.SReason, use("r"))), cell(list(0, 1), none(1), none(8), none(9), none(10)), num(9)},
	} {
		if got, e := algebra.Value(a, x.s, x.c); got != x.want || e != api.OK {
			t.Error(k, got, e)
		}
	}
}

func TestValueAgrees(t *testing.T) {
	d := dice(42)
	for range 1500 {
		a := d.some(names("x", "y", "z"), names("u", "v", "w"), 6)
		s := d.scalar(a, d.from(api.TBool, api.TText), d.from(1, 4))
		if _, e := specType(a, s); e != api.OK {
			continue
		}
		for k, r := range records(a) {
			if got, e := algebra.Value(schemaOf(a), s, a.Cells[k]); e != api.OK || got != specValue(s, r) {
				t.Fatal(a, s, got, e)
			}
		}
	}
}

func TestValueRefuses(t *testing.T) {
	a := parse(table)
	v := use("v")
	far := []api.Cell{cell(nil), cell(list(0), num(1)), cell(list(0, 0, 0), num(1)), cell(list(0, 0)), cell(list(0, 0), num(1), num(1)), cell(list(-1, 0), num(1)), cell(list(4, 0), num(1)), cell(list(0, 2), num(1)), cell(list(0, 0), rat(1, 2)), cell(list(0, 0), txt("a")), cell(list(0, 0), api.Val{}), cell(list(0, 0), none(256)), cell(list(0, 0), boolean(true)), cell(list(0, 0), num(api.MaxNum+1))}
	for _, x := range farNumbers {
		far = append(far, cell(list(x, 0), num(1)), cell(list(0, x), num(1)))
	}
	for k, c := range far {
		for _, x := range []struct {
			s    api.Scalar
			want api.Errno
		}{{v, api.ErrArg}, {constant(num(1)), api.ErrArg}, {use("q"), api.ErrName}, {op(api.SNot, v), api.ErrType}, {nested(13), api.ErrDeep}, {sumOf(65), api.ErrMany}} {
			if got, e := algebra.Value(a, x.s, c); got != (api.Val{}) || e != x.want {
				t.Error(k, got, e, x.want)
			}
		}
	}
	open := mixed()
	for _, y := range []int{0, api.Open, api.Open + 1} {
		if got, e := algebra.Value(open, along("y"), cell(list(0, y), boolean(true), num(3), rat(1, 2), txt("a"))); got != (api.Val{}) || e != api.ErrArg {
			t.Error(y, got, e)
		}
	}
	for k, x := range formless() {
		if got, e := algebra.Value(a, x.s, a.Cells[0]); got != (api.Val{}) || e != x.want {
			t.Error(k, got, e)
		}
	}
	for k, b := range spoiled() {
		if got, e := algebra.Value(b, v, a.Cells[0]); got != (api.Val{}) || e != api.ErrArg {
			t.Error(k, got, e)
		}
	}
}

// P4.3

// namedParts returns how many parts SAttr and SDim of a scalar have each name.
func namedParts(s api.Scalar, into map[string]int) map[string]int {
	if s.Op == api.SAttr || s.Op == api.SDim {
		into[s.Name]++
	}
	for _, x := range s.Args {
		namedParts(x, into)
	}
	return into
}

// specRenamed replaces a name.
func specRenamed(s api.Scalar, from, to string) api.Scalar {
	if (s.Op == api.SAttr || s.Op == api.SDim) && s.Name == from {
		s.Name = to
	}
	args := s.Args
	s.Args = nil
	for _, x := range args {
		s.Args = append(s.Args, specRenamed(x, from, to))
	}
	return s
}

// specSame compares scalars.
func specSame(a, b api.Scalar) bool {
	if a.Op != b.Op || a.Name != b.Name || a.Val != b.Val || len(a.Args) != len(b.Args) {
		return false
	}
	for k := range a.Args {
		if !specSame(a.Args[k], b.Args[k]) {
			return false
		}
	}
	return true
}

func TestUses(t *testing.T) {
	for k, x := range []struct {
		s    api.Scalar
		want []string
	}{
		{op(api.SAdd, op(api.SMul, use("v"), along("x")), op(api.SNeg, use("v"))), names("v", "x")},
		{op(api.SIf, use("b"), along("a_1"), use("a1")), names("a1", "a_1", "b")},
		{op(api.SAdd, along("v"), use("v")), names("v")},
		{op(api.SIf, use("ä"), use("Z"), op(api.SAdd, use(""), along("z"))), names("", "Z", "z", "ä")},
		{op(api.SIf, use("ab"), use("a"), op(api.SAdd, use("\xff\x00"), along("\xff"))), names("a", "ab", "\xff", "\xff\x00")},
		{constant(txt("v")), nil},
		{op(api.SNot, constant(boolean(true))), nil},
		{nested(12), names("v")},
	} {
		if got := algebra.Uses(x.s); !slices.Equal(got, x.want) {
			t.Error(k, got)
		}
	}
	for k, x := range formless() {
		if got := algebra.Uses(x.s); len(got) != 0 {
			t.Error(k, got)
		}
	}
}

func TestRenamed(t *testing.T) {
	d := dice(43)
	for range 1500 {
		a := d.some(names("x", "y", "z"), names("u", "v", "w"), 0)
		s := d.scalar(a, d.from(api.TBool, api.TText), d.from(1, 4))
		from, to := pick(&d, "x", "y", "u", "v", "q", ""), pick(&d, "x", "u", "q", "", "no name")
		want, before := specRenamed(s, from, to), specRenamed(s, "", "")
		got := algebra.Renamed(s, from, to)
		if !specSame(got, want) || algebra.SameScalar(s, got) != specSame(s, got) {
			t.Fatal(s, from, to, got)
		}
		count, again := namedParts(s, map[string]int{}), namedParts(got, map[string]int{})
		if from != to && (again[to] != count[to]+count[from] || again[from] != 0) {
			t.Fatal(s, from, to, got)
		}
		spoilScalar(got)
		if !specSame(s, before) {
			t.Fatal("Renamed shares memory with its argument, or changes it")
		}
	}
	empty := op(api.SAdd, use(""), constant(num(1)))
	if r := algebra.Renamed(empty, "", "v"); !specSame(r, op(api.SAdd, use("v"), constant(num(1)))) {
		t.Error(r)
	}
	shared := op(api.SNeg, use("v"))
	r := algebra.Renamed(op(api.SAdd, shared, shared), "v", "w")
	r.Args[0].Args[0].Name = "changed"
	if !specSame(r.Args[1], op(api.SNeg, use("w"))) {
		t.Error("parts of the result share memory")
	}
	for k, x := range formless() {
		if r := algebra.Renamed(x.s, "v", "w"); !specSame(r, api.Scalar{}) {
			t.Error(k, r)
		}
	}
}

// spoilScalar overwrites all parts of a scalar.
func spoilScalar(s api.Scalar) {
	for _, x := range s.Args {
		spoilScalar(x)
	}
	spoil(s.Args, use("spoiled"))
}

func TestSameScalar(t *testing.T) {
	v := use("v")
	l := []api.Scalar{
		v, use("w"), use(""), along("v"), constant(num(1)), constant(rat(1, 2)), constant(num(0)), constant(boolean(false)), constant(boolean(true)), constant(txt("")), constant(txt("v")),
		op(api.SNeg, v), op(api.SNot, v), op(api.SAdd, v, v), op(api.SSub, v, v), op(api.SAdd, v, use("w")), op(api.SAdd, use("w"), v), op(api.SNeg, op(api.SNeg, v)),
		op(api.SIf, v, v, v), op(api.SIf, v, v, use("w")), op(api.SAdd, op(api.SNeg, v), v), op(api.SAdd, v, op(api.SNeg, v)), nested(11), nested(12), sumOf(63), sumOf(61),
	}
	for i, a := range l {
		for k, b := range l {
			if algebra.SameScalar(a, specRenamed(b, "", "")) != (i == k) {
				t.Error(i, k)
			}
		}
	}
	if !algebra.SameScalar(v, api.Scalar{Op: api.SAttr, Name: "v", Args: []api.Scalar{}}) {
		t.Error("no arguments are not the same as none")
	}
	for k, x := range formless() {
		if algebra.SameScalar(x.s, x.s) || algebra.SameScalar(x.s, v) || algebra.SameScalar(v, x.s) {
			t.Error(k)
		}
	}
}

// R5: what is between the length and the capacity of a slice is left alone.
func TestScalarMemory(t *testing.T) {
	a := parse(table)
	s := op(api.SLt, op(api.SAdd, use("v"), along("x")), constant(num(9)))
	s.Args = roomy(s.Args, use("behind"))
	s.Args[0].Args = roomy(s.Args[0].Args, use("behind"))
	s.Args[1].Args = make([]api.Scalar, 0, 2)
	before := specRenamed(s, "", "")
	for k := range 6 {
		switch k {
		case 0:
			algebra.Type(a, s)
		case 1:
			algebra.Value(a, s, a.Cells[0])
		case 2:
			algebra.Uses(s)
		case 3:
			algebra.Renamed(s, "v", "w")
		case 4:
			algebra.Filter(a, s)
		case 5:
			algebra.Apply(a, "w", s)
		}
		behind := append(slices.Clone(s.Args[:cap(s.Args)][2:]), s.Args[0].Args[:5][2:]...)
		if !specSame(s, before) || slices.ContainsFunc(behind, func(x api.Scalar) bool { return !specSame(x, use("behind")) }) {
			t.Error(k, "the argument has changed")
		}
	}
}
