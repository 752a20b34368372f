package chunk_test

import (
	"bytes"
	"math"
	"slices"
	"testing"

	"tesseract/api"
	"tesseract/chunk"
	"tesseract/space"
)

// dice makes numbers that look random, the same ones in each run.
type dice uint64

func (d *dice) next() uint64 {
	*d = *d*6364136223846793005 + 1442695040888963407
	x := uint64(*d)
	return x ^ x>>29
}

// from returns a number from lo to hi.
func (d *dice) from(lo, hi int) int { return lo + int(d.next()%uint64(hi-lo+1)) }

// bytes returns n bytes below limit.
func (d *dice) bytes(n, limit int) []byte {
	b := make([]byte, n)
	for k := range b {
		b[k] = byte(d.from(0, limit-1))
	}
	return b
}

// value returns a value that fits a type, some of them at the limits.
func (d *dice) value(typ int) api.Val {
	if d.next()%6 == 0 {
		return none(int64(d.from(1, 255)))
	}
	switch typ {
	case api.TBool:
		return api.Val{Kind: api.KBool, N: int64(d.from(0, 1))}
	case api.TText:
		b := d.bytes(d.from(0, api.MaxText), 95)
		for k := range b {
			b[k] += ' '
		}
		return txt(string(b))
	case api.TRat:
		if d.next()%2 == 0 {
			return lowest(d.number(), 1+int64(d.next()%(1<<d.from(0, 40))))
		}
	}
	return num(d.number())
}

// number returns a number that is the integer of a value.
func (d *dice) number() int64 {
	switch d.next() % 6 {
	case 0:
		return api.MaxNum
	case 1:
		return -api.MaxNum
	}
	return int64(d.next()%(2<<d.from(0, 39))) - 1<<d.from(0, 38)
}

// schema returns a schema with some dimensions, some of which are open or end at a limit.
func (d *dice) schema(dims int) ([]api.Dim, []api.Attr) {
	var l []api.Dim
	for k := range dims {
		x := dim(string(rune('w'+k)), d.from(-9, 9), 0)
		switch d.next() % 4 {
		case 0:
			x.Hi = api.Open
		case 1:
			x.Lo = api.MaxCoord - d.from(0, 20)
			x.Hi = api.MaxCoord + d.from(0, 1)
		default:
			x.Hi = x.Lo + d.from(0, 20)
		}
		l = append(l, x)
	}
	var a []api.Attr
	for k := range d.from(1, 4) {
		a = append(a, attr(string(rune('a'+k)), d.from(api.TBool, api.TText)))
	}
	return l, a
}

// layout returns a layout for some dimensions, with sides that are at most a number.
func (d *dice) layout(dims, side int) api.Layout {
	l := api.Layout{Order: d.from(1, 3), Form: d.from(1, 3), Codec: d.from(1, 3)}
	if l.Order == api.Tiled {
		l.Tile = d.from(1, 5)
	}
	for range dims {
		s := d.from(1, side)
		l.Sides = append(l.Sides, s)
		l.Overlap = append(l.Overlap, d.from(0, min(s, 2)))
	}
	return l
}

// near returns coordinates of some dimensions that are near their lower bounds.
func (d *dice) near(l []api.Dim, far int) []int {
	var at []int
	for _, x := range l {
		at = append(at, d.from(x.Lo, min(x.Hi, x.Lo+far, api.MaxCoord)))
	}
	return at
}

// chunk returns a valid chunk, in which some cells that follow each other have the same values.
func (d *dice) chunk(l []api.Dim, a []api.Attr, layout api.Layout) chunk.Chunk {
	no, _ := space.Chunk(l, layout, d.near(l, 30))
	box, _ := space.Wide(l, layout, no)
	c := chunk.Chunk{No: no, Box: box}
	seldom, vals := uint64(d.from(1, 6)), []api.Val(nil)
	for _, at := range within(box) {
		if d.next()%seldom != 0 {
			continue
		}
		if vals == nil || d.next()%2 == 0 {
			vals = d.values(a)
		}
		c.Cells = append(c.Cells, cell(at, slices.Clone(vals)...))
	}
	return c
}

// values returns a value for each attribute.
func (d *dice) values(a []api.Attr) []api.Val {
	var vals []api.Val
	for _, x := range a {
		vals = append(vals, d.value(x.Type))
	}
	return vals
}

// array returns a valid array with at most n cells near the lower bounds of its dimensions.
func (d *dice) array(dims, n, far int) api.Array {
	l, a := d.schema(dims)
	var cells []api.Cell
	for range n {
		at := d.near(l, far)
		if !slices.ContainsFunc(cells, func(c api.Cell) bool { return slices.Equal(c.At, at) }) {
			cells = append(cells, cell(at, d.values(a)...))
		}
	}
	x, e := space.Make(l, a, cells)
	if e != api.OK {
		panic("an array that is not valid")
	}
	return x
}

func lowest(n, d int64) api.Val {
	a, b := max(n, -n), d
	for b != 0 {
		a, b = b, a%b
	}
	return rat(n/a, d/a)
}

func num(n int64) api.Val                     { return rat(n, 1) }
func rat(n, d int64) api.Val                  { return api.Val{Kind: api.KNum, N: n, D: d} }
func none(reason int64) api.Val               { return api.Val{N: reason} }
func txt(s string) api.Val                    { return api.Val{Kind: api.KText, S: s} }
func dim(name string, lo, hi int) api.Dim     { return api.Dim{Name: name, Lo: lo, Hi: hi} }
func attr(name string, typ int) api.Attr      { return api.Attr{Name: name, Type: typ} }
func cell(at []int, vals ...api.Val) api.Cell { return api.Cell{At: at, Vals: vals} }
func list(at ...int) []int                    { return at }

func sameCells(a, b []api.Cell) bool {
	return slices.EqualFunc(a, b, func(a, b api.Cell) bool { return slices.Equal(a.At, b.At) && slices.Equal(a.Vals, b.Vals) })
}

func sameChunk(a, b chunk.Chunk) bool {
	return slices.Equal(a.No, b.No) && slices.Equal(a.Box.Lo, b.Box.Lo) && slices.Equal(a.Box.Hi, b.Box.Hi) && sameCells(a.Cells, b.Cells)
}

func sameChunks(a, b []chunk.Chunk) bool { return slices.EqualFunc(a, b, sameChunk) }

func isNoChunk(c chunk.Chunk) bool {
	return len(c.No)+len(c.Box.Lo)+len(c.Box.Hi)+len(c.Cells) == 0
}

func isNoArray(a api.Array) bool { return len(a.Dims)+len(a.Attrs)+len(a.Cells) == 0 }

// farNumbers are numbers that are no index, codec, form or bound, and whose sums and differences do not fit.
var farNumbers = []int{math.MinInt, -1 << 40, -1, 1 << 40, math.MaxInt}

// within returns all coordinates of a box, as they are compared.
func within(b api.Box) [][]int {
	out := [][]int{nil}
	for k := range b.Lo {
		var longer [][]int
		for _, at := range out {
			for x := b.Lo[k]; x <= b.Hi[k]; x++ {
				longer = append(longer, append(slices.Clone(at), x))
			}
		}
		out = longer
	}
	return out
}

// roomy returns a copy of a list with elements behind its end, all of them filled.
func roomy[E any](l []E, fill E) []E {
	out := make([]E, len(l), len(l)+3)
	copy(out, l)
	for k := len(l); k < cap(out); k++ {
		out[:cap(out)][k] = fill
	}
	return out
}

// roomyCells returns a copy of cells whose slices all have filled elements behind their ends.
func roomyCells(l []api.Cell) []api.Cell {
	out := roomy(l, cell(list(-99)))
	for k, c := range out {
		out[k] = cell(roomy(c.At, -99), roomy(c.Vals, txt("behind"))...)
	}
	return out
}

// roomyChunk returns such a copy of a chunk.
func roomyChunk(c chunk.Chunk) chunk.Chunk {
	return chunk.Chunk{No: roomy(c.No, -99), Box: api.Box{Lo: roomy(c.Box.Lo, -99), Hi: roomy(c.Box.Hi, -99)}, Cells: roomyCells(c.Cells)}
}

// spoil overwrites all elements of a list, also those behind its end.
func spoil[E any](l []E, with E) {
	l = l[:cap(l)]
	for k := range l {
		l[k] = with
	}
}

// spoilCells overwrites all memory of cells.
func spoilCells(l []api.Cell) {
	for _, c := range l {
		spoil(c.At, -77)
		spoil(c.Vals, txt("spoiled"))
	}
	spoil(l, api.Cell{})
}

// spoilChunk overwrites all memory of a chunk.
func spoilChunk(c chunk.Chunk) {
	spoil(c.No, -77)
	spoil(c.Box.Lo, -77)
	spoil(c.Box.Hi, -77)
	spoilCells(c.Cells)
}

// apart checks that no two cells of a result share memory: it overwrites all of it, differently for each cell.
func apart(t *testing.T, cells []api.Cell) {
	t.Helper()
	for k, c := range cells {
		spoil(c.At, k)
		spoil(c.Vals, num(int64(k)))
	}
	for k, c := range cells {
		if slices.ContainsFunc(c.At, func(x int) bool { return x != k }) || slices.ContainsFunc(c.Vals, func(v api.Val) bool { return v != num(int64(k)) }) {
			t.Fatal("cells of a result share memory")
		}
	}
}

// example returns the chunk of the chapter's examples, with its schema and layout.
func example() ([]api.Dim, []api.Attr, api.Layout, chunk.Chunk) {
	l := api.Layout{Sides: list(4), Overlap: list(0), Order: api.RowMajor, Form: api.Dense, Codec: api.Plain}
	c := chunk.Chunk{No: list(0), Box: api.Box{Lo: list(0), Hi: list(3)}, Cells: []api.Cell{cell(list(0), num(5)), cell(list(1), num(7)), cell(list(3), num(7))}}
	return []api.Dim{dim("x", 0, 3)}, []api.Attr{attr("v", api.TInt)}, l, c
}

// sealed returns bytes with their checksum behind them.
func sealed(b ...byte) []byte {
	s := specSum(b)
	return append(slices.Clone(b), byte(s>>24), byte(s>>16), byte(s>>8), byte(s))
}

// encode returns the bytes of a chunk that must be valid.
func encode(t *testing.T, d []api.Dim, a []api.Attr, l api.Layout, c chunk.Chunk) []byte {
	t.Helper()
	b, e := chunk.Encode(d, a, l, c)
	if e != api.OK {
		t.Fatalf("Encode: %d; %+v, %+v, %+v", e, d, l, c)
	}
	return b
}

// split returns the chunks of an array that must be valid, for such a layout.
func split(t *testing.T, a api.Array, l api.Layout) []chunk.Chunk {
	t.Helper()
	c, e := chunk.Split(a, l)
	if e != api.OK {
		t.Fatalf("Split: %d; %+v", e, l)
	}
	return c
}

// The rest of this file computes what the chapter defines, in the chapter's steps.

func specSum(b []byte) uint32 {
	r := uint64(1<<32 - 1)
	for _, c := range b {
		r ^= uint64(c)
		for range 8 {
			odd := r%2 == 1
			r /= 2
			if odd {
				r ^= 2197175160
			}
		}
	}
	return uint32(r ^ (1<<32 - 1))
}

// specPack packs bytes: it collects literals until an item of another kind, or 128 of them.
func specPack(codec int, b []byte) []byte {
	if codec == api.Plain {
		return b
	}
	var out, waiting []byte
	flush := func() {
		if len(waiting) > 0 {
			out = append(append(out, byte(len(waiting)-1)), waiting...)
			waiting = nil
		}
	}
	for i := 0; i < len(b); {
		n, item := specRun(b, i)
		if codec == api.Lz {
			n, item = specCopy(b, i)
		}
		if n == 0 {
			waiting = append(waiting, b[i])
			i++
			if len(waiting) == 128 {
				flush()
			}
			continue
		}
		flush()
		out = append(out, item...)
		i += n
	}
	flush()
	return out
}

func specRun(b []byte, i int) (int, []byte) {
	for n := 130; n >= 3; n-- {
		if i+n <= len(b) && bytes.Count(b[i:i+n], b[i:i+1]) == n {
			return n, []byte{byte(n + 125), b[i]}
		}
	}
	return 0, nil
}

func specCopy(b []byte, i int) (int, []byte) {
	best, distance := 0, 0
	for d := 1; d <= min(1024, i); d++ {
		n := 0
		for n < 131 && i+n < len(b) && b[i+n] == b[i-d+n] {
			n++
		}
		if n >= 4 && n > best {
			best, distance = n, d
		}
	}
	return best, []byte{byte(best + 124), byte(distance / 256), byte(distance % 256)}
}

// specUnpack unpacks bytes, which must not be plain.
func specUnpack(codec int, b []byte) ([]byte, api.Errno) {
	var out []byte
	for rest := b; len(rest) > 0; {
		head, n := int(rest[0]), 1
		if head < 128 {
			n = head + 1
		} else if codec == api.Lz {
			n = 2
		}
		if len(rest) < n+1 {
			return nil, api.ErrTorn
		}
		tail := rest[1 : n+1]
		rest = rest[n+1:]
		switch {
		case head < 128:
			out = append(out, tail...)
		case codec == api.Rle:
			out = append(out, bytes.Repeat(tail, head-125)...)
		default:
			d := int(tail[0])*256 + int(tail[1])
			if d == 0 || d > 1024 || d > len(out) {
				return nil, api.ErrForm
			}
			for range head - 124 {
				out = append(out, out[len(out)-d])
			}
		}
		if len(out) > 1<<20 {
			return nil, api.ErrLong
		}
	}
	if !bytes.Equal(specPack(codec, out), b) {
		return nil, api.ErrForm
	}
	return out, api.OK
}

func specVarint(x uint64) []byte {
	if x < 128 {
		return []byte{byte(x)}
	}
	return append([]byte{byte(x%128 + 128)}, specVarint(x/128)...)
}

func specSigned(n int64) []byte {
	if n >= 0 {
		return specVarint(uint64(2 * n))
	}
	return specVarint(uint64(-2*n - 1))
}

func specValue(v api.Val) []byte {
	switch v.Kind {
	case api.KMissing:
		return []byte{0, byte(v.N)}
	case api.KBool:
		return []byte{byte(1 + v.N)}
	case api.KText:
		return append([]byte{5, byte(len(v.S))}, v.S...)
	}
	if v.D == 1 {
		return append([]byte{3}, specSigned(v.N)...)
	}
	return slices.Concat([]byte{4}, specSigned(v.N), specVarint(uint64(v.D)))
}

// specColumns returns the columns of cells.
func specColumns(cells []api.Cell, attrs int) []byte {
	var out []byte
	for k := range attrs {
		last := int64(0)
		for _, c := range cells {
			v := c.Vals[k]
			if v.Kind == api.KNum && v.D == 1 {
				v.N, last = v.N-last, v.N
			}
			out = append(out, specValue(v)...)
		}
	}
	return out
}

// specBody returns the body of a chunk.
func specBody(l api.Layout, c chunk.Chunk, attrs int) []byte {
	volume := len(within(c.Box))
	where := make([]int, volume) // for each position 1 and the index of its cell, or 0
	for k, x := range c.Cells {
		i, _ := space.Rank(l, c.Box, x.At)
		where[i] = k + 1
	}
	var ordered []api.Cell
	var out []byte
	last := -1
	for i, k := range where {
		if k > 0 {
			ordered = append(ordered, c.Cells[k-1])
			out = append(out, specVarint(uint64(i-last-1))...)
			last = i
		}
	}
	switch l.Form {
	case api.Runs:
		return specRuns(where, c.Cells)
	case api.Coords:
		out = append(specVarint(uint64(len(ordered))), out...)
	default:
		out = make([]byte, (volume+7)/8)
		for i, k := range where {
			if k > 0 {
				out[i/8] += 1 << (i % 8)
			}
		}
	}
	return append(out, specColumns(ordered, attrs)...)
}

// specRuns returns the body in the form Runs, for the indexes of the cells, plus 1, at each position.
func specRuns(where []int, cells []api.Cell) []byte {
	var texts [][]byte // what stands behind the length of a run of each position
	for _, k := range where {
		text := []byte{0}
		if k > 0 {
			text[0] = 1
			for _, v := range cells[k-1].Vals {
				text = append(text, specValue(v)...)
			}
		}
		texts = append(texts, text)
	}
	var out []byte
	for first := 0; first < len(texts); {
		next := first
		for next < len(texts) && bytes.Equal(texts[next], texts[first]) {
			next++
		}
		out = slices.Concat(out, specVarint(uint64(next-first)), texts[first])
		first = next
	}
	return out
}

// specBytes returns the bytes of a chunk.
func specBytes(l api.Layout, c chunk.Chunk, attrs int) []byte {
	body := specBody(l, c, attrs)
	out := []byte{84, byte(l.Form), byte(l.Order), byte(l.Tile), byte(l.Codec)}
	for _, n := range c.No {
		out = append(out, specVarint(uint64(n))...)
	}
	return sealed(slices.Concat(out, specVarint(uint64(len(body))), specPack(l.Codec, body))...)
}
