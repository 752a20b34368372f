package system_test

import (
	"fmt"
	"slices"
	"strings"
	"testing"

	"tesseract/api"
	"tesseract/query"
	"tesseract/space"
	"tesseract/system"
)

// dice makes numbers that look random, the same ones in each run.
type dice uint64

func (d *dice) next() uint64 {
	*d = *d*6364136223846793005 + 1442695040888963407
	x := uint64(*d)
	return x ^ x>>29
}

// from returns a number from lo to hi.
func (d *dice) from(lo, hi int) int { return lo + int(d.next()%uint64(hi-lo+1)) }

// pick returns one of the elements of a list.
func pick[E any](d *dice, l ...E) E { return l[d.from(0, len(l)-1)] }

// shuffled returns the elements of a list in any order.
func shuffled[E any](d *dice, l []E) []E {
	l = slices.Clone(l)
	for k := range l {
		i := d.from(0, k)
		l[k], l[i] = l[i], l[k]
	}
	return l
}

// many returns n elements.
func many[E any](n int, element func() E) []E {
	var out []E
	for range n {
		out = append(out, element())
	}
	return out
}

func num(n int64) api.Val       { return api.Val{Kind: api.KNum, N: n, D: 1} }
func none(reason int64) api.Val { return api.Val{Kind: api.KMissing, N: reason} }
func txt(s string) api.Val      { return api.Val{Kind: api.KText, S: s} }

func constant(v api.Val) api.Scalar           { return api.Scalar{Op: api.SConst, Val: v} }
func use(name string) api.Scalar              { return api.Scalar{Op: api.SAttr, Name: name} }
func along(name string) api.Scalar            { return api.Scalar{Op: api.SDim, Name: name} }
func op(n int, args ...api.Scalar) api.Scalar { return api.Scalar{Op: n, Args: args} }

func dim(name string, lo, hi int) api.Dim { return api.Dim{Name: name, Lo: lo, Hi: hi} }
func list(l ...int) []int                 { return l }
func names(l ...string) []string          { return l }
func scan(name string) api.Expr           { return api.Expr{Op: api.EScan, Name: name} }

// table is the string of the array of the document's examples.
const table = "dim x 0:3\ndim y 0:1\nattr v int\n0 0: 5\n1 0: 7\n1 1: ?1\n3 1: 2\n"

// letters are names.
const letters = "abcdefghijklmnopqrstuvwxyz"

// parse returns the array of a string.
func parse(s string) api.Array {
	a, e := space.Parse(s)
	if e != api.OK {
		panic("not the string of an array: " + s)
	}
	return a
}

// read returns the expression of a string.
func read(s string) api.Expr {
	e, f := query.Read(s)
	if f != api.OK {
		panic("not the string of an expression: " + s)
	}
	return e
}

// text returns the string of an expression.
func text(e api.Expr) string {
	s, f := query.Print(e)
	if f != api.OK {
		panic("an expression without a string")
	}
	return s
}

// must returns the array of a call that has no error.
func must(a api.Array, e api.Errno) api.Array {
	if e != api.OK {
		panic("an error")
	}
	return a
}

// base is a database with the array of the document's examples, and others, some of which are open.
func base() api.DB {
	return api.DB{
		{Name: "t", Array: parse(table)},
		{Name: "u", Array: parse("dim y -1:4\nattr w text\nattr q rat\n0: 'a', 1/2\n1: 'it''s', ?7\n4: '', 3\n")},
		{Name: "o", Array: parse("dim p -4:*\nattr n int\n-4: 1\n0: 2\n5: 3\n1073741824: 4\n")},
		{Name: "t2", Array: parse("dim x -2:1\ndim y 0:1\nattr v int\n-2 1: 4\n0 0: 6\n1 1: 8\n")},
		{Name: "g", Array: parse("dim y 0:2\ndim z -1:1\nattr k int\nattr b bool\n0 -1: 3, true\n0 0: ?2, false\n2 1: 4, ?5\n")},
		{Name: "w2", Array: parse("dim x 0:5\ndim y 0:*\nattr v int\n0 0: 1\n2 7: 3\n5 3: ?4\n")},
	}
}

// with returns a database with one more array.
func with(db api.DB, name string, a api.Array) api.DB {
	return append(slices.Clone(db), api.Named{Name: name, Array: a})
}

// lined returns an array with n cells along x.
func lined(n int) api.Array {
	a := api.Array{Dims: []api.Dim{dim("x", 0, 9999)}, Attrs: []api.Attr{{Name: "v", Type: api.TInt}}}
	for k := range n {
		a.Cells = append(a.Cells, api.Cell{At: list(k), Vals: []api.Val{num(int64(k % 7))}})
	}
	return a
}

// cells returns an array with at most n cells near the lower bounds of its dimensions.
func (d *dice) cells(a api.Array, n int) api.Array {
	var cells []api.Cell
	for range n {
		var c api.Cell
		for _, x := range a.Dims {
			c.At = append(c.At, d.from(x.Lo, min(x.Lo+9, x.Hi, api.MaxCoord)))
		}
		for _, x := range a.Attrs {
			c.Vals = append(c.Vals, d.fitting(x.Type))
		}
		if !slices.ContainsFunc(cells, func(x api.Cell) bool { return slices.Equal(x.At, c.At) }) {
			cells = append(cells, c)
		}
	}
	return must(space.Make(a.Dims, a.Attrs, cells))
}

// fitting returns a value that fits a type.
func (d *dice) fitting(typ int) api.Val {
	if d.next()%6 == 0 {
		return none(int64(d.from(1, 9)))
	}
	switch typ {
	case api.TBool:
		return api.Val{Kind: api.KBool, N: int64(d.from(0, 1))}
	case api.TText:
		return txt(pick(d, "", "a", "it's"))
	case api.TRat:
		return pick(d, num(int64(d.from(-3, 3))), api.Val{Kind: api.KNum, N: int64(d.from(-3, 3)*2 + 1), D: 2})
	}
	return num(int64(d.from(-3, 6)))
}

func sameSchema(a, b api.Array) bool {
	return slices.Equal(a.Dims, b.Dims) && slices.Equal(a.Attrs, b.Attrs)
}

func sameArray(a, b api.Array) bool {
	return sameSchema(a, b) && slices.EqualFunc(a.Cells, b.Cells, sameCell)
}

func sameCell(a, b api.Cell) bool { return slices.Equal(a.At, b.At) && slices.Equal(a.Vals, b.Vals) }

// label returns what a source is found by.
func label(name string, at []int) string { return fmt.Sprint(name, at) }

// labels returns what sources are found by, in their order.
func labels(l []system.Source) []string {
	var out []string
	for _, s := range l {
		out = append(out, label(s.Name, s.At))
	}
	return out
}

// said is a line, and its answer, or `error` and the number of the error.
type said struct{ line, answer string }

// saying returns what a system says to a line. In answers a slash between spaces stands for a line end.
func saying(t *testing.T, s *system.System, line string) string {
	t.Helper()
	answer, e := s.Do(line)
	if e == api.OK && answer == "" || e != api.OK && answer != "" {
		t.Fatalf("%s: the answer %q and the error %d", line, answer, e)
	}
	if e != api.OK {
		return fmt.Sprint("error ", int(e))
	}
	return strings.ReplaceAll(answer, "\n", " / ")
}

// says checks the answers of lines, one after the other.
func says(t *testing.T, s *system.System, l ...said) {
	t.Helper()
	for _, x := range l {
		if got := saying(t, s, x.line); got != x.answer {
			t.Fatalf("%s:\n%s\nnot\n%s", x.line, got, x.answer)
		}
	}
}

// does checks that lines have no errors.
func does(t *testing.T, s *system.System, l ...string) {
	t.Helper()
	for _, line := range l {
		if got := saying(t, s, line); strings.HasPrefix(got, "error") {
			t.Fatalf("%s: %s", line, got)
		}
	}
}

// fails checks that lines have an error, and that they change nothing that lines can show.
func fails(t *testing.T, s *system.System, want api.Errno, l ...string) {
	t.Helper()
	before := seen(t, s)
	for _, line := range l {
		if got := saying(t, s, line); got != fmt.Sprint("error ", int(want)) {
			t.Fatalf("%.99s: %s, not the error %d", line, got, want)
		}
	}
	if after := seen(t, s); after != before {
		t.Fatalf("%.99q changed\n%s\nto\n%s", l, before, after)
	}
}

// shownNames are the names of arrays that seen looks at.
var shownNames = []string{"a", "b", "t", "u", "m", "n"}

// seen returns what lines show of a system without changing it.
func seen(t *testing.T, s *system.System) string {
	t.Helper()
	var out []string
	for _, name := range shownNames {
		for _, line := range []string{"show %s", "heads %s", "log %s", "size %s", "level %s 0", "level %s 1", "level %s 2", "stats 1,1; select * from %s", "stats 1; select * from %s", "ask 1,1; select * from %s", "ask 1; select * from %s"} {
			out = append(out, saying(t, s, fmt.Sprintf(line, name)))
		}
	}
	return strings.Join(out, "\n")
}

// begun returns a system with the array of the document's examples, as the version 2 of t.
func begun(t *testing.T) *system.System {
	t.Helper()
	s := system.New()
	says(t, s, said{"create t; x 0:3, y 0:1; v int", "ok"}, said{"set t; 0 0: 5; 1 0: 7; 1 1: ?1; 3 1: 2", "version 2"})
	return s
}

// shownTable is the answer that shows the array of the document's examples.
var shownTable = strings.ReplaceAll(strings.TrimSuffix(table, "\n"), "\n", " / ")
