package version_test

import (
	"fmt"
	"maps"
	"slices"
	"strconv"
	"strings"
	"testing"

	"tesseract/api"
	"tesseract/exact"
	"tesseract/space"
)

// dice makes numbers that look random, the same ones in each run.
type dice uint64

func (d *dice) next() uint64 {
	*d = *d*6364136223846793005 + 1442695040888963407
	x := uint64(*d)
	return x ^ x>>29
}

// from returns a number from lo to hi.
func (d *dice) from(lo, hi int) int { return lo + int(d.next()%uint64(hi-lo+1)) }

// pick returns one of the elements of a list.
func pick[E any](d *dice, l ...E) E { return l[d.from(0, len(l)-1)] }

// shuffled returns the elements of a list in any order.
func shuffled[E any](d *dice, l []E) []E {
	l = slices.Clone(l)
	for k := range l {
		i := d.from(0, k)
		l[k], l[i] = l[i], l[k]
	}
	return l
}

func num(n int64) api.Val                 { return api.Val{Kind: api.KNum, N: n, D: 1} }
func none(reason int64) api.Val           { return api.Val{Kind: api.KMissing, N: reason} }
func dim(name string, lo, hi int) api.Dim { return api.Dim{Name: name, Lo: lo, Hi: hi} }
func list(l ...int) []int                 { return l }
func vals(l ...api.Val) []api.Val         { return l }

// to returns a change to some values.
func to(at []int, l ...api.Val) api.Change { return api.Change{At: at, Vals: l} }

// changes returns the changes of a string such as `0 0: 6; 3 1:`.
func changes(s string) []api.Change {
	var out []api.Change
	for part := range strings.SplitSeq(s, ";") {
		at, values, ok := strings.Cut(part, ":")
		if !ok {
			continue
		}
		var c api.Change
		for x := range strings.FieldsSeq(at) {
			n, _ := strconv.Atoi(x)
			c.At = append(c.At, n)
		}
		for x := range strings.FieldsFuncSeq(values, func(r rune) bool { return r == ',' || r == ' ' }) {
			v, e := exact.Read(x)
			if e != api.OK {
				panic("not a value: " + x)
			}
			c.Vals = append(c.Vals, v)
		}
		out = append(out, c)
	}
	return out
}

// table is the string of the array of the document's examples.
const table = "dim x 0:3\ndim y 0:1\nattr v int\n0 0: 5\n1 0: 7\n1 1: ?1\n3 1: 2\n"

// parse returns the array of a string.
func parse(s string) api.Array {
	a, e := space.Parse(s)
	if e != api.OK {
		panic("not the string of an array: " + s)
	}
	return a
}

// cells returns the array of the document's examples with other cells.
func cells(lines string) api.Array {
	schema, _, _ := strings.Cut(table, "0 0:")
	return parse(schema + lines)
}

// line returns an array with n cells along one dimension.
func line(n int) api.Array {
	a := api.Array{Dims: []api.Dim{dim("x", 0, 9999)}, Attrs: []api.Attr{{Name: "v", Type: api.TInt}}}
	for k := range n {
		a.Cells = append(a.Cells, api.Cell{At: list(k), Vals: vals(num(int64(k)))})
	}
	return a
}

// spoiled are arrays that are not valid.
func spoiled() []api.Array {
	var out []api.Array
	for _, change := range []func(a *api.Array){
		func(a *api.Array) { a.Dims = nil },
		func(a *api.Array) { a.Dims[0].Name = "X" },
		func(a *api.Array) { a.Dims[0].Hi = -1 },
		func(a *api.Array) { a.Attrs = nil },
		func(a *api.Array) { a.Attrs[0].Type = 5 },
		func(a *api.Array) { a.Cells[1].At = list(1) },
		func(a *api.Array) { a.Cells[1].Vals = nil },
		func(a *api.Array) { a.Cells[3].At = list(4, 1) },
		func(a *api.Array) { a.Cells[3].Vals[0].D = 2 },
		func(a *api.Array) { a.Cells[3].At = list(1, 1) },
		func(a *api.Array) { a.Cells[0], a.Cells[1] = a.Cells[1], a.Cells[0] },
	} {
		a := parse(table)
		change(&a)
		out = append(out, a)
	}
	return append(out, api.Array{}, line(api.MaxCells+1))
}

func sameChanges(a, b []api.Change) bool {
	return slices.EqualFunc(a, b, func(a, b api.Change) bool { return slices.Equal(a.At, b.At) && slices.Equal(a.Vals, b.Vals) })
}

func sameArray(a, b api.Array) bool {
	return slices.Equal(a.Dims, b.Dims) && slices.Equal(a.Attrs, b.Attrs) && slices.EqualFunc(a.Cells, b.Cells, func(a, b api.Cell) bool {
		return slices.Equal(a.At, b.At) && slices.Equal(a.Vals, b.Vals)
	})
}

// expect compares a result with an array, or with an error.
func expect(t *testing.T, what any, a api.Array, e api.Errno, want api.Array, f api.Errno) {
	t.Helper()
	if e != f {
		t.Fatalf("%v: error %d, not %d", what, e, f)
	}
	if e != api.OK && len(a.Dims)+len(a.Attrs)+len(a.Cells) > 0 {
		t.Fatalf("%v: an array together with the error %d", what, e)
	}
	if e != api.OK {
		return
	}
	if space.Check(a) != api.OK {
		t.Fatalf("%v: an array that is not valid", what)
	}
	if !sameArray(a, want) {
		s, _ := space.Print(a)
		w, _ := space.Print(want)
		t.Fatalf("%v:\n%s\nnot\n%s", what, s, w)
	}
}

// expectArray compares a result with an array.
func expectArray(t *testing.T, what any, a api.Array, e api.Errno, want api.Array) {
	t.Helper()
	expect(t, what, a, e, want, api.OK)
}

// expectError compares a result with an error.
func expectError(t *testing.T, what any, a api.Array, e, want api.Errno) {
	t.Helper()
	expect(t, what, a, e, api.Array{}, want)
}

// expectChanges compares a result with changes, or with an error.
func expectChanges(t *testing.T, what any, l []api.Change, e api.Errno, want []api.Change, f api.Errno) {
	t.Helper()
	if e != f || !sameChanges(l, want) {
		t.Fatalf("%v: %v, error %d, not %v, %d", what, l, e, want, f)
	}
}

// must returns the array of a call that has no error.
func must(a api.Array, e api.Errno) api.Array {
	if e != api.OK {
		panic(fmt.Sprint("error ", e))
	}
	return a
}

// value returns a value that fits a type; few are different, so that equal ones come often.
func (d *dice) value(typ int) api.Val {
	if d.next()%4 == 0 {
		return none(int64(d.from(1, 2)))
	}
	switch typ {
	case api.TBool:
		return api.Val{Kind: api.KBool, N: int64(d.from(0, 1))}
	case api.TText:
		return api.Val{Kind: api.KText, S: pick(d, "", "a", "it's")}
	case api.TRat:
		return pick(d, num(int64(d.from(0, 3))), api.Val{Kind: api.KNum, N: 1, D: 2}, api.Val{Kind: api.KNum, N: -5, D: 3})
	}
	return num(int64(d.from(0, 3)))
}

// schema returns an array without cells, with one to four short dimensions, some of them open or at a limit.
func (d *dice) schema() api.Array {
	var a api.Array
	for _, name := range []string{"x", "y", "z", "w"}[:d.from(1, 4)] {
		lo := d.from(-4, 3)
		x := dim(name, lo, lo+d.from(0, 5))
		switch d.next() % 6 {
		case 0:
			x.Hi = api.Open
		case 1:
			x = dim(name, api.MaxCoord-d.from(0, 4), pick(d, api.MaxCoord, api.Open))
		case 2:
			x = dim(name, -api.MaxCoord, -api.MaxCoord+d.from(0, 5))
		}
		a.Dims = append(a.Dims, x)
	}
	for k, name := range []string{"a", "b", "c", "d", "e", "f"}[:d.from(1, api.MaxAttrs)] {
		a.Attrs = append(a.Attrs, api.Attr{Name: name, Type: pick(d, api.TInt, api.TRat, 1+k%4)})
	}
	return a
}

// at returns coordinates of an array near its lower bounds, or its upper ones.
func (d *dice) at(a api.Array) []int {
	var out []int
	for _, x := range a.Dims {
		hi := min(x.Hi, api.MaxCoord)
		near := d.from(x.Lo, min(x.Lo+5, hi))
		out = append(out, pick(d, near, near, near, hi))
	}
	return out
}

// vals returns values of a cell of an array.
func (d *dice) vals(a api.Array) []api.Val {
	var out []api.Val
	for _, x := range a.Attrs {
		out = append(out, d.value(x.Type))
	}
	return out
}

// changes returns at most n changes of an array without an error, in any order. Some of them change nothing.
func (d *dice) changes(a api.Array, n int) []api.Change {
	var out []api.Change
	for range n {
		c := api.Change{At: d.at(a)}
		if len(a.Cells) > 0 && d.next()%2 == 0 {
			c.At = slices.Clone(pick(d, a.Cells...).At)
		}
		if d.next()%3 > 0 {
			c.Vals = d.vals(a)
		}
		if !slices.ContainsFunc(out, func(x api.Change) bool { return slices.Equal(x.At, c.At) }) {
			out = append(out, c)
		}
	}
	return out
}

// array returns an array with at most n cells, and the schema of another one.
func (d *dice) array(schema api.Array, n int) api.Array {
	return must(specApply(schema, d.changes(schema, n)))
}

// spoilChanges puts an error or two into some changes.
func (d *dice) spoilChanges(a api.Array, l []api.Change) []api.Change {
	l = slices.Clone(l)
	for range d.from(1, 2) {
		c := api.Change{At: d.at(a), Vals: d.vals(a)}
		k := d.from(0, len(a.Dims)-1)
		switch d.next() % 8 {
		case 0:
			c.At = c.At[1:]
		case 1:
			c.At = append(c.At, 0)
		case 2:
			c.Vals = append(c.Vals, num(1))
		case 3:
			c.At[k] = a.Dims[k].Lo - 1
		case 4:
			c.At[k] = min(a.Dims[k].Hi, api.MaxCoord) + 1
		case 5:
			c.Vals[d.from(0, len(c.Vals)-1)] = pick(d, api.Val{}, api.Val{Kind: api.KNum, N: 2, D: 4}, none(256), api.Val{Kind: 4})
		case 6:
			k = d.from(0, len(c.Vals)-1)
			c.Vals[k] = map[int]api.Val{api.TBool: num(1), api.TInt: {Kind: api.KNum, N: 1, D: 2}, api.TRat: {Kind: api.KBool}, api.TText: num(1)}[a.Attrs[k].Type]
		case 7:
			if len(l) > 0 {
				c.At = slices.Clone(pick(d, l...).At)
			}
		}
		l = slices.Insert(l, d.from(0, len(l)), c)
	}
	return l
}

// The rest of this file computes what the chapter defines, as its words say it.

// state returns the values of an array at some coordinates, or none if they are empty.
func state(a api.Array, at []int) []api.Val {
	for _, c := range a.Cells {
		if slices.Equal(c.At, at) {
			return c.Vals
		}
	}
	return nil
}

// coordinates returns all coordinates of the cells of some arrays, sorted.
func coordinates(l ...api.Array) [][]int {
	all := map[string][]int{}
	for _, a := range l {
		for _, c := range a.Cells {
			all[fmt.Sprint(c.At)] = c.At
		}
	}
	return slices.SortedFunc(maps.Values(all), space.Compare)
}

// withStates returns the array of which a function returns the states at some coordinates, all others being empty.
func withStates(schema api.Array, at [][]int, state func(at []int) []api.Val) (api.Array, api.Errno) {
	var l []api.Cell
	for _, x := range at {
		if v := state(x); len(v) > 0 {
			l = append(l, api.Cell{At: x, Vals: v})
		}
	}
	return space.Make(schema.Dims, schema.Attrs, l)
}

// specDelta returns the difference from an array to another one.
func specDelta(a, b api.Array) []api.Change {
	var out []api.Change
	for _, at := range coordinates(a, b) {
		if v := state(b, at); !slices.Equal(state(a, at), v) {
			out = append(out, api.Change{At: at, Vals: v})
		}
	}
	return out
}

// specError returns the error of changes.
func specError(a api.Array, l []api.Change) api.Errno {
	for _, c := range l {
		cell := api.Array{Dims: a.Dims, Attrs: a.Attrs, Cells: []api.Cell{{At: c.At, Vals: c.Vals}}}
		if len(c.Vals) == 0 {
			cell.Cells[0].Vals = slices.Repeat(vals(none(1)), len(a.Attrs))
		}
		if e := space.Check(cell); e != api.OK {
			return e
		}
	}
	for k, x := range l {
		for _, y := range l[:k] {
			if slices.Equal(x.At, y.At) {
				return api.ErrHave
			}
		}
	}
	return api.OK
}

// specApply returns an array with some changes.
func specApply(a api.Array, l []api.Change) (api.Array, api.Errno) {
	if e := specError(a, l); e != api.OK {
		return api.Array{}, e
	}
	news := api.Array{}
	byPlace := map[string][]api.Val{}
	for _, c := range l {
		news.Cells = append(news.Cells, api.Cell{At: c.At})
		byPlace[fmt.Sprint(c.At)] = c.Vals
	}
	return withStates(a, coordinates(a, news), func(at []int) []api.Val {
		if v, is := byPlace[fmt.Sprint(at)]; is {
			return v
		}
		return state(a, at)
	})
}

// specMerged returns the merge of two arrays with a base, or the first coordinates with a conflict.
func specMerged(base, a, b api.Array) (api.Array, []int, api.Errno) {
	all := coordinates(base, a, b)
	for _, at := range all {
		x, y, z := state(base, at), state(a, at), state(b, at)
		if !slices.Equal(x, y) && !slices.Equal(x, z) && !slices.Equal(y, z) {
			return api.Array{}, at, api.ErrConflict
		}
	}
	out, e := withStates(base, all, func(at []int) []api.Val {
		if x, y := state(base, at), state(a, at); !slices.Equal(x, y) {
			return y
		}
		return state(b, at)
	})
	return out, nil, e
}
