package space_test

import (
	"math"
	"slices"
	"testing"

	"tesseract/api"
	"tesseract/space"
)

// dice makes numbers that look random, the same ones in each run.
type dice uint64

func (d *dice) next() uint64 {
	*d = *d*6364136223846793005 + 1442695040888963407
	x := uint64(*d)
	return x ^ x>>29
}

// from returns a number from lo to hi.
func (d *dice) from(lo, hi int) int { return lo + int(d.next()%uint64(hi-lo+1)) }

// coords returns n numbers from lo to hi.
func (d *dice) coords(n, lo, hi int) []int {
	var at []int
	for range n {
		at = append(at, d.from(lo, hi))
	}
	return at
}

func num(n int64) api.Val       { return api.Val{Kind: api.KNum, N: n, D: 1} }
func rat(n, d int64) api.Val    { return api.Val{Kind: api.KNum, N: n, D: d} }
func none(reason int64) api.Val { return api.Val{Kind: api.KMissing, N: reason} }
func txt(s string) api.Val      { return api.Val{Kind: api.KText, S: s} }

func boolean(is bool) api.Val {
	if is {
		return api.Val{Kind: api.KBool, N: 1}
	}
	return api.Val{Kind: api.KBool}
}

func dim(name string, lo, hi int) api.Dim      { return api.Dim{Name: name, Lo: lo, Hi: hi} }
func dims(l ...api.Dim) []api.Dim              { return l }
func attr(name string, typ int) api.Attr       { return api.Attr{Name: name, Type: typ} }
func cell(at []int, vals ...api.Val) api.Cell  { return api.Cell{At: at, Vals: vals} }
func list(at ...int) []int                     { return at }
func box(lo, hi []int) api.Box                 { return api.Box{Lo: lo, Hi: hi} }
func ordered(order, tile int) api.Layout       { return api.Layout{Order: order, Tile: tile} }
func named(name string, a api.Array) api.Named { return api.Named{Name: name, Array: a} }
func spread(l []int) []int                     { return append(make([]int, 0, len(l)+8), l...) }
func isZero(a api.Array) bool                  { return len(a.Dims)+len(a.Attrs)+len(a.Cells) == 0 }
func isNoBox(b api.Box) bool                   { return len(b.Lo)+len(b.Hi) == 0 }
func sameBox(a, b api.Box) bool                { return slices.Equal(a.Lo, b.Lo) && slices.Equal(a.Hi, b.Hi) }
func sameLists(a, b [][]int) bool              { return slices.EqualFunc(a, b, slices.Equal[[]int]) }
func sameCell(a, b api.Cell) bool              { return slices.Equal(a.At, b.At) && slices.Equal(a.Vals, b.Vals) }
func sameCells(a, b []api.Cell) bool           { return slices.EqualFunc(a, b, sameCell) }
func sameSchema(a, b api.Array) bool {
	return slices.Equal(a.Dims, b.Dims) && slices.Equal(a.Attrs, b.Attrs)
}
func sameArray(a, b api.Array) bool { return sameSchema(a, b) && sameCells(a.Cells, b.Cells) }
func isBound(hi int) bool           { return hi < api.Open }
func grid(sides, overlap []int, order int) api.Layout {
	return api.Layout{Sides: sides, Overlap: overlap, Order: order, Form: api.Dense, Codec: api.Plain}
}

// farNumbers are numbers whose sums and differences do not fit.
var farNumbers = []int{math.MinInt, math.MinInt + 1, -1 << 40, 1 << 40, math.MaxInt - 1, math.MaxInt}

// sample returns the array of the document's examples.
func sample() api.Array {
	return api.Array{
		Dims:  dims(dim("x", 0, 3), dim("y", 0, 1)),
		Attrs: []api.Attr{attr("v", api.TInt)},
		Cells: []api.Cell{cell(list(0, 0), num(5)), cell(list(1, 0), num(7)), cell(list(1, 1), none(1)), cell(list(3, 1), num(2))},
	}
}

// mixed returns an array with all types, bounds at the limits, and a cell whose values are all missing.
func mixed() api.Array {
	return api.Array{
		Dims:  dims(dim("a", -api.MaxCoord, api.Open), dim("b_2", -2, -2), dim("cc", 5, api.MaxCoord)),
		Attrs: []api.Attr{attr("p", api.TBool), attr("q", api.TInt), attr("r", api.TRat), attr("s", api.TText)},
		Cells: []api.Cell{
			cell(list(-api.MaxCoord, -2, 5), boolean(true), num(-api.MaxNum), rat(-1, 2), txt("it's, a: 'b'")),
			cell(list(-1, -2, 9), boolean(false), num(0), num(7), txt("")),
			cell(list(-1, -2, 10), none(1), none(255), none(4), none(9)),
			cell(list(0, -2, 6), none(2), num(3), rat(7, api.MaxNum), txt("', ' : ?1")),
			cell(list(api.MaxCoord, -2, api.MaxCoord), boolean(true), num(api.MaxNum), num(0), txt("sixteen bytes ab")),
		},
	}
}

// zigzag returns an array whose first and last cells have neither the least nor the greatest coordinates along all dimensions.
func zigzag() api.Array {
	a := sample()
	a.Dims = dims(dim("x", -5, 9), dim("y", -9, 9))
	a.Cells = []api.Cell{cell(list(-4, 2), num(1)), cell(list(-4, 5), none(3)), cell(list(0, -7), num(2)), cell(list(2, 8), num(3)), cell(list(7, 3), num(4))}
	return a
}

// arrays returns some valid arrays, all different.
func arrays() []api.Array {
	l := []api.Array{sample(), mixed(), zigzag()}
	none := sample()
	none.Cells = nil
	l = append(l, none)
	for k := range 6 {
		a := sample()
		a.Cells = a.Cells[k%4 : k%4+1]
		if k >= 4 {
			a.Dims[0].Name = "z"
		}
		l = append(l, a)
	}
	return append(l, full())
}

// full returns an array with MaxCells cells.
func full() api.Array {
	a := api.Array{Dims: dims(dim("w", 1, api.Open)), Attrs: []api.Attr{attr("n", api.TInt)}}
	for k := range api.MaxCells {
		a.Cells = append(a.Cells, cell(list(k+1), num(int64(k))))
	}
	return a
}

// deep returns a copy of an array whose slices all have elements behind their ends that must be left alone.
func deep(a api.Array) api.Array {
	out := api.Array{Dims: append(make([]api.Dim, 0, len(a.Dims)+2), a.Dims...), Attrs: append(make([]api.Attr, 0, len(a.Attrs)+2), a.Attrs...)}
	for _, c := range a.Cells {
		out.Cells = append(out.Cells, api.Cell{At: spread(c.At), Vals: append(make([]api.Val, 0, len(c.Vals)+2), c.Vals...)})
	}
	return out
}

// spoil overwrites all memory of an array, also behind the ends of its slices.
func spoil(a api.Array) {
	for _, c := range a.Cells {
		spoilInts(c.At)
		vals := c.Vals[:cap(c.Vals)]
		for k := range vals {
			vals[k] = txt("spoiled")
		}
	}
	clear(a.Cells[:cap(a.Cells)])
	clear(a.Dims[:cap(a.Dims)])
	clear(a.Attrs[:cap(a.Attrs)])
}

func spoilInts(l []int) {
	l = l[:cap(l)]
	for k := range l {
		l[k] = -99
	}
}

// apart reports whether spoiling the result of a function changes an array from which it was computed.
func apart(t *testing.T, what string, result api.Array, from, before api.Array) {
	t.Helper()
	spoil(result)
	if !sameArray(from, before) {
		t.Error(what, "shares memory with its argument")
	}
}

// within returns all coordinates of a box with bounds, as they are compared.
func within(b api.Box) [][]int {
	out := [][]int{nil}
	for k := range b.Lo {
		var longer [][]int
		for _, at := range out {
			for x := b.Lo[k]; x <= b.Hi[k]; x++ {
				longer = append(longer, append(slices.Clone(at), x))
			}
		}
		out = longer
	}
	return out
}

// valid reports whether an array is valid, and fails if it is not.
func valid(t *testing.T, a api.Array) {
	t.Helper()
	if e := space.Check(a); e != api.OK {
		t.Error("an array that is not valid was returned:", e)
	}
}
