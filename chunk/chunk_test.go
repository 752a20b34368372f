package chunk_test

import (
	"bytes"
	"math"
	"slices"
	"testing"

	"tesseract/api"
	"tesseract/chunk"
	"tesseract/space"
)

// P3.3

func TestEncodeExamples(t *testing.T) {
	d, a, l, c := example()
	for form, want := range map[int][]byte{
		api.Dense:  {84, 1, 1, 0, 1, 0, 7, 11, 3, 10, 3, 4, 3, 0},
		api.Runs:   {84, 2, 1, 0, 1, 0, 14, 1, 1, 3, 10, 1, 1, 3, 14, 1, 0, 1, 1, 3, 14},
		api.Coords: {84, 3, 1, 0, 1, 0, 10, 3, 0, 0, 1, 3, 10, 3, 4, 3, 0},
	} {
		l.Form = form
		if b, e := chunk.Encode(d, a, l, c); e != api.OK || !bytes.Equal(b, sealed(want...)) {
			t.Error(form, b, e)
		}
	}
	c.Cells = nil
	for form, want := range map[int][]byte{api.Dense: {84, 1, 1, 0, 1, 0, 1, 0}, api.Runs: {84, 2, 1, 0, 1, 0, 2, 4, 0}, api.Coords: {84, 3, 1, 0, 1, 0, 1, 0}} {
		l.Form = form
		if b, e := chunk.Encode(d, a, l, c); e != api.OK || !bytes.Equal(b, sealed(want...)) {
			t.Error("without cells:", form, b, e)
		}
	}
}

// mixed returns a chunk with all kinds of values, some of them at the limits.
func mixed() ([]api.Dim, []api.Attr, api.Layout, chunk.Chunk) {
	d := []api.Dim{dim("x", -3, 8), dim("y", 0, api.Open)}
	a := []api.Attr{attr("p", api.TBool), attr("q", api.TInt), attr("r", api.TRat), attr("s", api.TText)}
	l := api.Layout{Sides: list(4, 1), Overlap: list(1, 0), Order: api.Tiled, Tile: 2, Form: api.Coords, Codec: api.Plain}
	yes, no := api.Val{Kind: api.KBool, N: 1}, api.Val{Kind: api.KBool}
	return d, a, l, chunk.Chunk{No: list(1, 300), Box: api.Box{Lo: list(0, 300), Hi: list(5, 300)}, Cells: []api.Cell{
		cell(list(0, 300), yes, num(-api.MaxNum), rat(-1, 300), txt("")),
		cell(list(2, 300), none(4), num(api.MaxNum), num(-64), txt("sixteen bytes 'a")),
		cell(list(3, 300), no, none(255), rat(api.MaxNum-1, api.MaxNum), none(1)),
		cell(list(5, 300), no, num(api.MaxNum), num(-1), txt(" ~")),
	}}
}

func TestEncodeMixed(t *testing.T) {
	d, a, l, c := mixed()
	body := slices.Concat([]byte{4, 0, 1, 0, 1, 2, 0, 4, 1, 1},
		[]byte{3, 255, 255, 255, 255, 255, 63, 3, 128, 128, 128, 128, 128, 128, 1, 0, 255, 3, 0},
		[]byte{4, 1, 172, 2, 3, 127, 4, 254, 255, 255, 255, 255, 63, 128, 128, 128, 128, 128, 32, 3, 126},
		[]byte{5, 0, 5, 16}, []byte("sixteen bytes 'a"), []byte{0, 1, 5, 2, ' ', '~'})
	want := sealed(slices.Concat([]byte{84, 3, 3, 2, 1, 1, 172, 2, byte(len(body))}, body)...)
	b, e := chunk.Encode(d, a, l, c)
	if e != api.OK || !bytes.Equal(b, want) {
		t.Error(b, e, want)
	}
	if x, e := chunk.Decode(d, a, l, want); e != api.OK || !sameChunk(x, c) {
		t.Error(x, e)
	}
	l.Form = api.Runs
	if b, e = chunk.Encode(d, a, l, c); e != api.OK || b[9] != 1 || !bytes.Equal(b[10:20], []byte{1, 2, 3, 255, 255, 255, 255, 255, 63, 4}) {
		t.Error("integers in runs are not differences:", b, e)
	}
}

func TestEncodeAny(t *testing.T) {
	r := dice(7)
	for n := range 3000 {
		d, a := r.schema(r.from(1, 4))
		l := r.layout(len(d), 5-len(d)+n%2)
		if space.Layout(d, l) != api.OK {
			continue
		}
		c := r.chunk(d, a, l)
		want := specBytes(l, c, len(a))
		x := roomyChunk(c)
		b, e := chunk.Encode(roomy(d, dim("behind", 0, 0)), roomy(a, attr("behind", 1)), l, x)
		if e != api.OK || !bytes.Equal(b, want) || !sameChunk(x, c) {
			t.Fatalf("%+v, %+v: %d, %d, not %d", l, c, e, b, want)
		}
		checkDecode(t, d, a, l, c, b)
	}
}

// checkDecode decodes the bytes of a chunk (P3.4, P3.8).
func checkDecode(t *testing.T, d []api.Dim, a []api.Attr, l api.Layout, c chunk.Chunk, b []byte) {
	t.Helper()
	given := roomy(b, 88)
	x, e := chunk.Decode(d, a, l, given)
	if e != api.OK || !sameChunk(x, c) {
		t.Fatalf("%+v, %+v: %+v, %d", l, c, x, e)
	}
	if again := encode(t, d, a, l, x); !bytes.Equal(again, b) {
		t.Fatal(again, b)
	}
	apart(t, x.Cells)
	spoilChunk(x)
	if !bytes.Equal(given, b) || given[:cap(given)][len(given)] != 88 {
		t.Error("Decode shares memory with its argument, or changes it")
	}
}

// call is a call of Encode, and the error that it returns; grid is whether this is one of the schema or the layout.
type call struct {
	what string
	d    []api.Dim
	a    []api.Attr
	l    api.Layout
	c    chunk.Chunk
	grid bool
	want api.Errno
}

// refusals returns calls with errors: to those of each call the ones of all later calls are added.
func refusals() []call {
	d, a, l, c := example()
	x := call{d: d, a: a, l: l, c: c}
	var out []call
	add := func(want api.Errno, what string, spoil func()) {
		x.c = roomyChunk(x.c)
		spoil()
		x.want, x.what = want, what
		out = append(out, x)
	}
	add(api.ErrArg, "not sorted", func() { x.c.Cells[1], x.c.Cells[2] = x.c.Cells[2], x.c.Cells[1] })
	add(api.ErrHave, "the last cell twice", func() { x.c.Cells[2] = cell(list(3), num(5)) })
	add(api.ErrType, "a type", func() { x.c.Cells[2].Vals[0] = txt("a") })
	add(api.ErrRange, "coordinates", func() { x.c.Cells[2].At[0] = 4 })
	add(api.ErrShape, "too many coordinates", func() { x.c.Cells[2].At = list(4, 0) })
	add(api.ErrHave, "the first cell twice", func() { x.c.Cells[1] = cell(list(0), num(5)) })
	add(api.ErrType, "a fraction", func() { x.c.Cells[1] = cell(list(0), rat(1, 2)) })
	add(api.ErrRange, "coordinates below", func() { x.c.Cells[1] = cell(list(-1), rat(1, 2)) })
	add(api.ErrShape, "no values", func() { x.c.Cells[1] = cell(list(-1)) })
	add(api.ErrRange, "coordinates of the first cell", func() { x.c.Cells[0] = cell(list(9), num(1)) })
	add(api.ErrArg, "the box", func() { x.c.Box = api.Box{Lo: list(0), Hi: list(api.Open)} })
	add(api.ErrRange, "the number", func() { x.c.No = list(1) })
	add(api.ErrShape, "the numbers", func() { x.c.No = list(0, 0) })
	x.grid = true
	add(api.ErrArg, "the codec", func() { x.l.Codec = 4 })
	add(api.ErrRange, "the sides", func() { x.l.Overlap, x.l.Sides = list(17), list(65) })
	add(api.ErrShape, "the overlaps", func() { x.l.Overlap = nil })
	add(api.ErrType, "the type of an attribute", func() { x.a = []api.Attr{attr("v", 5)} })
	add(api.ErrName, "the name of an attribute", func() { x.a = []api.Attr{attr("x", 5)} })
	add(api.ErrMany, "no attributes", func() { x.a = nil })
	add(api.ErrRange, "a dimension", func() { x.d = []api.Dim{dim("x", 1, 0)} })
	add(api.ErrName, "the name of a dimension", func() { x.d = []api.Dim{dim("X", 1, 0)} })
	add(api.ErrShape, "no dimensions", func() { x.d = nil })
	return out
}

func TestEncodeRefuses(t *testing.T) {
	for _, x := range refusals() {
		if b, e := chunk.Encode(x.d, x.a, x.l, x.c); e != x.want || len(b) > 0 {
			t.Error(x.what, b, e, x.want)
		}
	}
}

// TestEncodeRefusesOne makes one error alone.
func TestEncodeRefusesOne(t *testing.T) {
	d, a, l, _ := example()
	l.Overlap = list(1)
	d[0].Hi = 9
	for k, x := range []struct {
		spoil func(c *chunk.Chunk)
		want  api.Errno
	}{
		{func(c *chunk.Chunk) {}, api.OK},
		{func(c *chunk.Chunk) { c.Cells = nil }, api.OK},
		{func(c *chunk.Chunk) { c.No = nil }, api.ErrShape},
		{func(c *chunk.Chunk) { c.No = list(1, 1) }, api.ErrShape},
		{func(c *chunk.Chunk) { c.No = list(-1) }, api.ErrRange},
		{func(c *chunk.Chunk) { c.No = list(3) }, api.ErrRange},
		{func(c *chunk.Chunk) { c.No = list(math.MaxInt) }, api.ErrRange},
		{func(c *chunk.Chunk) { c.No = list(0) }, api.ErrArg},
		{func(c *chunk.Chunk) { c.Box = api.Box{} }, api.ErrArg},
		{func(c *chunk.Chunk) { c.Box.Lo = list(4) }, api.ErrArg}, // the core
		{func(c *chunk.Chunk) { c.Box.Lo, c.Box.Hi = list(4), list(7) }, api.ErrArg},
		{func(c *chunk.Chunk) { c.Box.Hi = list(9) }, api.ErrArg},
		{func(c *chunk.Chunk) { c.Box.Hi = list(8, 8) }, api.ErrArg},
		{func(c *chunk.Chunk) { c.Box.Lo = list(3, 3) }, api.ErrArg},
		{func(c *chunk.Chunk) { c.Cells[0].At = nil }, api.ErrShape},
		{func(c *chunk.Chunk) { c.Cells[3].At = list(8, 8) }, api.ErrShape},
		{func(c *chunk.Chunk) { c.Cells[3].Vals = nil }, api.ErrShape},
		{func(c *chunk.Chunk) { c.Cells[3].Vals = []api.Val{num(1), num(2)} }, api.ErrShape},
		{func(c *chunk.Chunk) { c.Cells[0].At[0] = 2 }, api.ErrRange},
		{func(c *chunk.Chunk) { c.Cells[3].At[0] = 9 }, api.ErrRange},
		{func(c *chunk.Chunk) { c.Cells[0].At[0] = math.MinInt }, api.ErrRange},
		{func(c *chunk.Chunk) { c.Cells[3].Vals[0] = rat(1, 2) }, api.ErrType},
		{func(c *chunk.Chunk) { c.Cells[3].Vals[0] = rat(2, 0) }, api.ErrType},
		{func(c *chunk.Chunk) { c.Cells[3].Vals[0] = num(api.MaxNum + 1) }, api.ErrType},
		{func(c *chunk.Chunk) { c.Cells[3].Vals[0] = none(0) }, api.ErrType},
		{func(c *chunk.Chunk) { c.Cells[3].Vals[0] = none(256) }, api.ErrType},
		{func(c *chunk.Chunk) { c.Cells[3].Vals[0] = api.Val{Kind: 4} }, api.ErrType},
		{func(c *chunk.Chunk) { c.Cells[3].At[0] = 6 }, api.ErrHave},
		{func(c *chunk.Chunk) { c.Cells[3].At[0] = 5 }, api.ErrArg},
		{func(c *chunk.Chunk) { c.Cells[0].At[0] = 8 }, api.ErrArg},
	} {
		c := chunk.Chunk{No: list(1), Box: api.Box{Lo: list(3), Hi: list(8)}, Cells: []api.Cell{cell(list(3), num(5)), cell(list(4), num(7)), cell(list(6), none(1)), cell(list(8), num(7))}}
		x.spoil(&c)
		if b, e := chunk.Encode(d, a, l, c); e != x.want || (e != api.OK) != (len(b) == 0) {
			t.Error(k, b, e, x.want)
		}
	}
}

// full returns a chunk with MaxCells cells.
func full() ([]api.Dim, []api.Attr, api.Layout, chunk.Chunk) {
	l := api.Layout{Sides: list(64, 64), Overlap: list(0, 0), Order: api.Hilbert, Form: api.Dense, Codec: api.Lz}
	c := chunk.Chunk{No: list(0, 1), Box: api.Box{Lo: list(0, 64), Hi: list(63, 127)}}
	r := dice(9)
	a := []api.Attr{attr("a", api.TText), attr("b", api.TText), attr("c", api.TRat), attr("d", api.TInt), attr("e", api.TBool), attr("f", api.TText)}
	for _, at := range within(c.Box) {
		c.Cells = append(c.Cells, cell(at, r.values(a)...))
	}
	return []api.Dim{dim("x", 0, 63), dim("y", 0, 127)}, a, l, c
}

func TestFullChunks(t *testing.T) {
	d, a, l, c := full()
	for form := api.Dense; form <= api.Coords; form++ {
		for codec := api.Plain; codec <= api.Lz; codec++ {
			l.Form, l.Codec = form, codec
			checkDecode(t, d, a, l, c, encode(t, d, a, l, c))
		}
	}
	vals := c.Cells[0].Vals
	for k, x := range []struct {
		more api.Cell
		want api.Errno
	}{
		{cell(nil, vals...), api.ErrShape}, {cell(list(63, 128), vals...), api.ErrRange}, {cell(list(63, 127), num(1), num(1), num(1), num(1), num(1), num(1)), api.ErrType},
		{cell(list(63, 127), vals...), api.ErrHave}, {cell(list(63, 126), vals...), api.ErrArg},
	} {
		many := c
		many.Cells = append(slices.Clone(c.Cells), x.more, cell(nil))
		if b, e := chunk.Encode(d, a, l, many); e != x.want || len(b) > 0 {
			t.Error("with too many cells:", k, e, x.want)
		}
		many.Cells[7].Vals = nil
		if b, e := chunk.Encode(d, a, l, many); e != api.ErrShape || len(b) > 0 {
			t.Error("with too many cells, and an error before:", k, e)
		}
	}
}

// P3.4

func TestDecodeRefuses(t *testing.T) {
	for _, x := range refusals() {
		for _, b := range [][]byte{nil, {1}, {1, 1, 1, 1}} {
			want := api.ErrSum
			if x.grid {
				want = x.want
			} else if len(b) < 4 {
				want = api.ErrTorn
			}
			if c, e := chunk.Decode(x.d, x.a, x.l, b); e != want || !isNoChunk(c) {
				t.Error(x.what, b, c, e, want)
			}
		}
	}
	d, a, l, c := example()
	b := encode(t, d, a, l, c)
	for n := range len(b) {
		want := api.ErrSum
		if n < 4 {
			want = api.ErrTorn
		}
		if c, e := chunk.Decode(d, a, l, b[:n]); e != want || !isNoChunk(c) {
			t.Error(n, c, e)
		}
	}
	if c, e := chunk.Decode(d, a, l, append(slices.Clone(b), 0)); e != api.ErrSum || !isNoChunk(c) {
		t.Error(c, e)
	}
}

// bad returns bytes that are not those of the chunk of the examples, or of another one with its schema and layout in some form, but for a right checksum.
func bad(form int) [][]byte {
	head := []byte{84, byte(form), 1, 0, 1, 0}
	var bodies [][]byte
	switch form {
	case api.Dense:
		bodies = [][]byte{
			{}, {11}, {11, 3}, {11, 3, 10, 3, 4, 3}, {11, 3, 10, 3, 4, 3, 0, 0}, {3, 3, 10, 3, 4, 3, 0}, {15, 3, 10, 3, 4, 3, 0},
			{27, 3, 10, 3, 4, 3, 0}, {139, 3, 10, 3, 4, 3, 0}, {11, 3, 10, 3, 4, 3, 128, 0}, {11, 3, 138, 0, 3, 4, 3, 0}, {1, 3, 138, 128, 128, 128, 128, 128, 128, 128, 128, 0}, {1, 3, 138, 128, 128, 128, 128, 128, 128, 128, 128, 2}, {1, 3, 138, 128, 128, 128, 128, 128, 128, 128, 128, 128, 0},
			{1, 0, 0}, {1, 1}, {1, 2}, {1, 5, 0}, {1, 5, 1, 'a'}, {1, 6}, {1, 255}, {1, 4, 10, 1}, {1, 4, 10, 2}, {1, 4, 4, 4}, {1, 4, 10, 0},
			{1, 3, 130, 128, 128, 128, 128, 128, 1}, {1, 3, 129, 128, 128, 128, 128, 128, 1}, {3, 3, 128, 128, 128, 128, 128, 64, 3, 2}, {3, 3, 10, 3, 255, 255, 255, 255, 255, 255, 255, 255, 255, 1},
		}
	case api.Runs:
		bodies = [][]byte{
			{}, {4}, {3, 0}, {5, 0}, {4, 0, 0}, {4, 2}, {2, 0, 2, 0}, {0, 0, 4, 0}, {4, 0, 0, 0}, {132, 0, 0}, {255, 255, 255, 255, 255, 255, 255, 255, 255, 1, 0}, {0, 0}, {4, 2, 3, 10}, {4, 1}, {4, 1, 3}, {4, 1, 1},
			{1, 1, 3, 10, 3, 1, 3, 10}, {1, 1, 3, 10, 2, 0, 1, 1, 3, 10, 0}, {2, 1, 3, 10, 3, 0}, {128, 128, 128, 128, 128, 128, 128, 128, 128, 128, 1},
		}
	default:
		bodies = [][]byte{
			{}, {1}, {1, 0}, {128, 0}, {0, 0}, {1, 0, 3}, {1, 4, 3, 10}, {1, 5, 3, 10}, {1, 131, 0, 3, 10}, {1, 255, 255, 255, 255, 255, 255, 255, 255, 255, 1, 3, 10}, {2, 0, 3, 3, 10, 3, 0}, {2, 0, 3, 10}, {5, 0, 0, 0, 0, 0, 3, 0, 3, 0, 3, 0, 3, 0, 3, 0},
			{255, 255, 255, 255, 255, 255, 255, 255, 255, 1, 0, 0, 0, 0}, {2, 1, 0, 3, 10}, {1, 0, 0, 0}, {1, 0, 3, 10, 0},
		}
	}
	var out [][]byte
	for _, b := range bodies {
		out = append(out, slices.Concat(head, []byte{byte(len(b))}, b))
	}
	return out
}

func TestDecodeBadBytes(t *testing.T) {
	d, a, l, _ := example()
	for form := api.Dense; form <= api.Coords; form++ {
		l.Form = form
		for _, b := range bad(form) {
			if c, e := chunk.Decode(d, a, l, sealed(b...)); e != api.ErrForm || !isNoChunk(c) {
				t.Error(b, c, e)
			}
		}
	}
	l.Form = api.Dense
	for _, b := range [][]byte{
		{}, {84}, {84, 1, 1, 0, 1}, {84, 1, 1, 0, 1, 0}, {84, 1, 1, 0, 1, 0, 1}, {83, 1, 1, 0, 1, 0, 1, 0}, {84, 2, 1, 0, 1, 0, 1, 0}, {84, 1, 2, 0, 1, 0, 1, 0}, {84, 1, 1, 1, 1, 0, 1, 0}, {84, 1, 1, 0, 2, 0, 1, 0}, {84, 1, 1, 0, 2, 0, 1, 0, 0},
		{84, 1, 1, 0, 1, 1, 1, 0}, {84, 1, 1, 0, 1, 128, 0, 1, 0}, {84, 1, 1, 0, 1, 0, 129, 0, 0}, {84, 1, 1, 0, 1, 0, 2, 0}, {84, 1, 1, 0, 1, 0, 0, 0}, {84, 1, 1, 0, 1, 0, 0}, {84, 1, 1, 0, 1, 0, 1, 0, 0}, {84, 1, 1, 0, 1, 0, 0, 1, 0},
		{84, 1, 1, 0, 1, 255, 255, 255, 255, 255, 255, 255, 255, 255, 1, 1, 0}, {84, 1, 1, 0, 1, 128, 128, 128, 128, 128, 128, 128, 128, 128, 2, 1, 0}, {84, 1, 1, 0, 1, 128, 128, 128, 128, 128, 128, 128, 128, 128, 128, 1, 0}, {84, 1, 1, 0, 1, 255, 255, 255, 255, 255},
	} {
		if c, e := chunk.Decode(d, a, l, sealed(b...)); e != api.ErrForm || !isNoChunk(c) {
			t.Error(b, c, e)
		}
	}
	if c, e := chunk.Decode(d, a, l, sealed(84, 1, 1, 0, 1, 0, 1, 0)); e != api.OK || len(c.Cells) > 0 {
		t.Error("the good bytes next to the bad ones:", c, e)
	}
	bodies := [][]byte{append([]byte{84, 1, 1, 0, 1, 0}, zeros(2<<20)...), slices.Concat([]byte{84, 1, 1, 0, 1, 0, 128, 128, 64}, zeros(1<<20))}
	for _, b := range bodies {
		for l.Codec = api.Plain; l.Codec <= api.Lz; l.Codec++ {
			b[4] = byte(l.Codec)
			if c, e := chunk.Decode(d, a, l, sealed(b...)); e != api.ErrForm || !isNoChunk(c) {
				t.Error(len(b), l.Codec, e)
			}
		}
	}
}

// TestDecodePacked has bodies that Pack would pack in another way, or that can't be unpacked.
func TestDecodePacked(t *testing.T) {
	d, a, l, _ := example()
	d[0].Hi = api.Open
	l.Sides = list(64)
	for _, x := range []struct {
		codec  byte
		packed []byte
		want   api.Errno
	}{
		{2, []byte{133, 0}, api.OK}, {2, []byte{7, 0, 0, 0, 0, 0, 0, 0, 0}, api.ErrForm}, {2, []byte{132, 0, 0, 0}, api.ErrForm}, {2, []byte{0, 0, 132, 0}, api.ErrForm}, {2, []byte{133}, api.ErrForm}, {2, []byte{133, 0, 0}, api.ErrForm}, {2, repeated(9000, 255, 0), api.ErrForm},
		{3, []byte{0, 0, 131, 0, 1}, api.OK}, {3, []byte{7, 0, 0, 0, 0, 0, 0, 0, 0}, api.ErrForm}, {3, []byte{1, 0, 0, 130, 0, 2}, api.ErrForm}, {3, []byte{131, 0, 1}, api.ErrForm}, {3, []byte{0, 0, 131, 0}, api.ErrForm}, {3, []byte{0, 0, 131, 0, 0}, api.ErrForm},
	} {
		l.Codec = int(x.codec)
		c, e := chunk.Decode(d, a, l, sealed(slices.Concat([]byte{84, 1, 1, 0, x.codec, 0, 8}, x.packed)...))
		if e != x.want || len(c.Cells) > 0 || e != api.OK && !isNoChunk(c) {
			t.Error(x.codec, x.packed, c, e)
		}
	}
}

// TestDecodeElsewhere decodes the bytes of a chunk for other schemas and layouts.
func TestDecodeElsewhere(t *testing.T) {
	d, a, l, c := mixed()
	b := encode(t, d, a, l, c)
	for k, change := range []func(d []api.Dim, a []api.Attr, l *api.Layout){
		func(d []api.Dim, a []api.Attr, l *api.Layout) { l.Form = api.Dense },
		func(d []api.Dim, a []api.Attr, l *api.Layout) { l.Form = api.Runs },
		func(d []api.Dim, a []api.Attr, l *api.Layout) { l.Order, l.Tile = api.RowMajor, 0 },
		func(d []api.Dim, a []api.Attr, l *api.Layout) { l.Order, l.Tile = api.Hilbert, 0 },
		func(d []api.Dim, a []api.Attr, l *api.Layout) { l.Tile = 3 },
		func(d []api.Dim, a []api.Attr, l *api.Layout) { l.Codec = api.Rle },
		func(d []api.Dim, a []api.Attr, l *api.Layout) { l.Codec = api.Lz },
		func(d []api.Dim, a []api.Attr, l *api.Layout) { l.Sides[0], l.Overlap[0] = 2, 0 },
		func(d []api.Dim, a []api.Attr, l *api.Layout) { d[0].Hi = 0 },
		func(d []api.Dim, a []api.Attr, l *api.Layout) { d[1].Hi = 299 },
		func(d []api.Dim, a []api.Attr, l *api.Layout) { a[1].Type = api.TText },
		func(d []api.Dim, a []api.Attr, l *api.Layout) { a[2].Type = api.TInt },
		func(d []api.Dim, a []api.Attr, l *api.Layout) { a[0].Type = api.TRat },
	} {
		d, a, l, _ := mixed()
		change(d, a, &l)
		if c, e := chunk.Decode(d, a, l, b); e != api.ErrForm || !isNoChunk(c) {
			t.Error(k, c, e)
		}
	}
	if c, e := chunk.Decode(d[:1], a, api.Layout{Sides: list(4), Overlap: list(1), Order: api.Tiled, Tile: 2, Form: api.Coords, Codec: api.Plain}, b); e != api.ErrForm || !isNoChunk(c) {
		t.Error(c, e)
	}
	if c, e := chunk.Decode(d, a[:3], l, b); e != api.ErrForm || !isNoChunk(c) {
		t.Error(c, e)
	}
	a[1].Type = api.TRat // all values fit this type, too
	d[0].Name = "z"
	if x, e := chunk.Decode(d, a, l, b); e != api.OK || !sameChunk(x, c) {
		t.Error(x, e)
	}
}

// P3.8

// smallChunks returns some chunks whose bytes are few, in all forms, orders and codecs.
func smallChunks() []call {
	var out []call
	add := func(d []api.Dim, a []api.Attr, l api.Layout, c chunk.Chunk) {
		for l.Form = api.Dense; l.Form <= api.Coords; l.Form++ {
			for l.Codec = api.Plain; l.Codec <= api.Lz; l.Codec++ {
				for l.Order = api.RowMajor; l.Order <= api.Tiled; l.Order++ {
					l.Tile = 0
					if l.Order == api.Tiled {
						l.Tile = 2
					}
					out = append(out, call{d: d, a: a, l: l, c: c})
				}
			}
		}
	}
	add(example())
	add(mixed())
	d, a, l, c := example()
	d[0].Hi, l.Sides, c.Box.Hi = 40, list(40), list(39)
	for x := 4; x < 40; x += 2 {
		c.Cells = append(c.Cells, cell(list(x), none(1)))
	}
	add(d, a, l, c)
	return out
}

func TestChangedBits(t *testing.T) {
	for k, x := range smallChunks() {
		b := encode(t, x.d, x.a, x.l, x.c)
		checkDecode(t, x.d, x.a, x.l, x.c, b)
		for i := range 8 * len(b) {
			b[i/8] ^= 1 << (i % 8)
			if c, e := chunk.Decode(x.d, x.a, x.l, b); e != api.ErrSum || !isNoChunk(c) {
				t.Fatal(k, i, c, e)
			}
			b[i/8] ^= 1 << (i % 8)
		}
	}
}

// TestChangedBytes changes bytes and the checksum with them: what is then decoded has these bytes.
func TestChangedBytes(t *testing.T) {
	met := map[api.Errno]int{}
	attempt := func(x call, b []byte) {
		b = sealed(b...)
		c, e := chunk.Decode(x.d, x.a, x.l, b)
		met[e]++
		if e == api.ErrForm && isNoChunk(c) {
			return
		}
		if e != api.OK || !bytes.Equal(specBytes(x.l, c, len(x.a)), b) || !bytes.Equal(encode(t, x.d, x.a, x.l, c), b) {
			t.Fatalf("%+v, %v: %+v, %d", x.l, b, c, e)
		}
	}
	for _, x := range smallChunks() {
		b := encode(t, x.d, x.a, x.l, x.c)
		b = b[:len(b)-4]
		for i := range b {
			for _, c := range []byte{0, 1, 2, 3, 4, 5, 6, 10, 16, 17, 127, 128, 129, 133, 200, 255, b[i] + 1, b[i] - 1, b[i] ^ 128} {
				attempt(x, slices.Concat(b[:i], []byte{c}, b[i+1:]))
				attempt(x, slices.Concat(b[:i], []byte{c}, b[i:]))
			}
			attempt(x, slices.Concat(b[:i], b[i+1:]))
			attempt(x, b[:i])
		}
	}
	if met[api.OK] < 2000 || met[api.ErrForm] < 20000 {
		t.Error("too few:", met)
	}
}
