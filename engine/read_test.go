package engine_test

import (
	"slices"
	"testing"

	"tesseract/api"
	"tesseract/chunk"
	"tesseract/engine"
	"tesseract/space"
)

// specChunks returns the numbers of the chunks of an array that are decoded to read a box.
func specChunks(a api.Array, l api.Layout, b api.Box) [][]int {
	chunks, _ := chunk.Split(a, l)
	part, is := space.Inter(b, whole(a))
	if !is {
		return nil
	}
	var out [][]int
	for _, c := range chunks {
		lies := true
		for k := range part.Lo {
			lies = lies && c.Box.Lo[k] <= part.Lo[k] && part.Hi[k] <= c.Box.Hi[k]
		}
		if lies {
			return [][]int{c.No}
		}
		core, _ := space.Core(a.Dims, l, c.No)
		if _, is := space.Inter(core, b); is {
			out = append(out, c.No)
		}
	}
	return out
}

// P7.6

func TestGet(t *testing.T) {
	s := stored()
	const d = "dim x 0:3\ndim y 0:1\nattr v int\n"
	for _, x := range []struct {
		b      api.Box
		want   string
		chunks int
	}{
		// the examples of the chapter
		{box(1, 2, 0, 1), d + "1 0: 7\n1 1: ?1\n", 1},
		{box(0, 3, 0, 1), table, 2},
		{box(2, 2, 0, 1), d, 1}, // in the wide boxes of both chunks: the first one is decoded
		{box(3, 3, 0, 1), d + "3 1: 2\n", 1},
		{box(2, 3, 0, 1), d + "3 1: 2\n", 1},
		{box(0, 2, 0, 1), d + "0 0: 5\n1 0: 7\n1 1: ?1\n", 1},
		{box(0, 2, -9, 9), d + "0 0: 5\n1 0: 7\n1 1: ?1\n", 1}, // the common part lies in a wide box
		{box(1, 3, 0, 0), d + "1 0: 7\n", 1},
		{box(-5, api.Open, -5, api.Open+5), table, 2},
		{box(1, 3, 1, 1), d + "1 1: ?1\n3 1: 2\n", 1},
		{box(4, 9, 0, 1), d, 0},
		{box(0, 3, 2, api.Open), d, 0},
		{box(3, 2, 0, 1), d, 0},
	} {
		a, n, e := s.Get("t", x.b)
		expect(t, boxText(x.b), a, e, parse(x.want), api.OK)
		if n != (engine.Stats{Boxes: 1, Chunks: x.chunks}) {
			t.Errorf("%s: %v", boxText(x.b), n)
		}
	}
}

func TestGetRefuses(t *testing.T) {
	s := stored()
	if s.Flip("t", list(0, 0), 0) != api.OK || s.Flip("t", list(1, 0), 0) != api.OK {
		t.Fatal("an error")
	}
	for _, x := range []struct {
		name string
		b    api.Box
		want api.Errno
	}{
		{"u", box(0, 1, 0, 1), api.ErrNone}, {"", api.Box{}, api.ErrNone}, {"u", api.Box{}, api.ErrNone},
		{"t", api.Box{}, api.ErrShape}, {"t", box(0, 1), api.ErrShape}, {"t", box(0, 1, 0, 1, 0, 1), api.ErrShape},
		{"t", api.Box{Lo: list(0, 0), Hi: list(0)}, api.ErrShape}, {"t", api.Box{Lo: list(0), Hi: list(0, 0)}, api.ErrShape},
		{"t", box(0, 1, 0, 1), api.ErrSum},
	} {
		a, n, e := s.Get(x.name, x.b)
		refused(t, x, a, n, e, x.want)
	}
	a, n, e := s.Get("t", box(3, 2, 0, 1)) // nothing is decoded
	expect(t, "an empty box", a, e, parse("dim x 0:3\ndim y 0:1\nattr v int\n"), api.OK)
	if n.Chunks != 0 {
		t.Error(n)
	}
}

// The coordinates of an open dimension end at MaxCoord, but a box without an upper bound lies in no wide box.
func TestGetOpen(t *testing.T) {
	a := parse("dim p 1073741821:*\nattr n int\n1073741821: 1\n1073741824: 2\n")
	s := engine.New()
	if e := s.Put("o", a, grid(2, 2)); e != api.OK {
		t.Fatal(e)
	}
	for _, x := range []struct {
		b             api.Box
		cells, chunks int
	}{
		{box(api.MaxCoord-3, api.MaxCoord), 2, 1}, {box(api.MaxCoord-3, api.Open), 2, 2}, {box(api.MaxCoord, api.Open), 1, 1}, {box(-9, 1<<40), 2, 2},
		{box(api.MaxCoord+1, api.Open), 0, 0}, {box(1<<40, 1<<41), 0, 0}, {box(1<<40, api.MaxCoord), 0, 0}, {box(api.MaxCoord-2, api.MaxCoord-1), 0, 1},
	} {
		got, n, e := s.Get("o", x.b)
		expect(t, boxText(x.b), got, e, must(space.Cut(a, x.b)), api.OK)
		if len(got.Cells) != x.cells || n.Chunks != x.chunks {
			t.Errorf("%s: %v %v", boxText(x.b), got.Cells, n)
		}
	}
}

// P7.6, P7.11, P7.12

func TestGetByModel(t *testing.T) {
	d := dice(76)
	single, several, damaged := 0, 0, 0
	for range 3000 {
		a := d.cells(pick(&d, base()...).Array, d.from(0, 14))
		l := d.layout(a.Dims)
		b := d.box(a.Dims)
		s := engine.New()
		if e := s.Put("a", a, l); e != api.OK {
			t.Fatal(e)
		}
		want := specChunks(a, l, b)
		check := func() {
			t.Helper()
			got, n, e := s.Get("a", b)
			expect(t, l, got, e, must(space.Cut(a, b)), api.OK)
			if n != (engine.Stats{Boxes: 1, Chunks: len(want)}) {
				t.Fatalf("%v at %s: %v, not %d chunks", l, boxText(b), n, len(want))
			}
		}
		check()
		single += min(len(want), 1)
		several += max(len(want), 1) - 1
		numbers, _ := s.Chunks("a")
		for _, no := range numbers {
			bytes, _ := s.Bytes("a", no)
			bit := d.from(0, 8*len(bytes)-1)
			if e := s.Flip("a", no, bit); e != api.OK {
				t.Fatal(e)
			}
			if slices.ContainsFunc(want, func(x []int) bool { return slices.Equal(x, no) }) {
				got, n, e := s.Get("a", b)
				refused(t, boxText(b), got, n, e, api.ErrSum)
				damaged++
			} else {
				check()
			}
			if e := s.Move("a", d.layout(a.Dims)); e != api.ErrSum {
				t.Fatal("a Move with a damaged chunk", e)
			}
			if e := s.Flip("a", no, bit); e != api.OK {
				t.Fatal(e)
			}
		}
		check()
		if e := s.Move("a", d.layout(a.Dims)); e != api.OK {
			t.Fatal(e)
		}
		got, _, e := s.Get("a", b)
		expect(t, "moved", got, e, must(space.Cut(a, b)), api.OK)
	}
	if single < 300 || several < 300 || damaged < 300 {
		t.Error(single, several, damaged)
	}
}

// P7.12: each bit matters.
func TestEachBit(t *testing.T) {
	for form := api.Dense; form <= api.Coords; form++ {
		s := stored()
		l := grid(2, 2, 1, 0)
		l.Form, l.Codec = form, form
		if e := s.Move("t", l); e != api.OK {
			t.Fatal(e)
		}
		for k, no := range [][]int{{0, 0}, {1, 0}} {
			b, _ := s.Bytes("t", no)
			for bit := range 8 * len(b) {
				if e := s.Flip("t", no, bit); e != api.OK {
					t.Fatal(e)
				}
				a, n, e := s.Get("t", box(3*k, 3*k, 0, 1))
				refused(t, bit, a, n, e, api.ErrSum)
				if _, _, e := s.Get("t", box(3-3*k, 3-3*k, 0, 1)); e != api.OK {
					t.Error(bit, e)
				}
				a, n, e = s.Run(scan("t"), list(1, 1))
				refused(t, bit, a, n, e, api.ErrSum)
				if e := s.Flip("t", no, bit); e != api.OK {
					t.Fatal(e)
				}
			}
		}
		a, _, e := s.Get("t", box(0, 3, 0, 1))
		expect(t, form, a, e, parse(table), api.OK)
	}
}

// R8: If so many bits were changed that the bytes are those of another chunk, no error is promised, but arrays that are returned are valid.
func TestForged(t *testing.T) {
	a := parse("dim x 0:3\nattr v int\n0: 5\n2: 5\n")
	s := engine.New()
	if e := s.Put("a", a, grid(2, 0)); e != api.OK {
		t.Fatal(e)
	}
	forge(t, s, "a", list(0), func(b []byte) { b[5] = 1 }) // the number
	for _, b := range []api.Box{box(0, 3), box(0, 1), box(1, 2)} {
		got, _, e := s.Get("a", b)
		if e == api.OK && (space.Check(got) != api.OK || !slices.Equal(got.Dims, a.Dims)) {
			t.Errorf("%s: %v is not valid", boxText(b), got)
		}
	}
	if e := s.Move("a", grid(1, 0)); e == api.OK {
		if got, _, e := s.Get("a", box(0, 3)); e == api.OK && space.Check(got) != api.OK {
			t.Error("an array that is not valid")
		}
	}
}

// There are too many cells in chunks that were forged.
func TestForgedMany(t *testing.T) {
	a := parse("dim x 0:511\ndim y 0:63\nattr v int\n0 0: 5\n64 0: 5\n")
	l := grid(64, 64, 0, 0)
	l.Form = api.Runs
	s := engine.New()
	if e := s.Put("a", a, l); e != api.OK {
		t.Fatal(e)
	}
	for k := range 2 {
		// One run of a cell and one of 4,095 empty coordinates become a run of 4,096 cells.
		forge(t, s, "a", list(k, 0), func(b []byte) { copy(b[8:], []byte{128, 32, 1, 3, 128, 128, 1}) })
		if got, _, e := s.Get("a", box(64*k, 64*k+63, 0, 63)); e != api.OK || len(got.Cells) != api.MaxCells {
			t.Fatal(e, len(got.Cells))
		}
	}
	got, n, e := s.Get("a", box(0, 127, 0, 63))
	refused(t, "Get", got, n, e, api.ErrMany)
	got, n, e = s.Run(scan("a"), list(64, 0))
	refused(t, "Run", got, n, e, api.ErrMany)
	if e := s.Move("a", grid(1, 1, 0, 0)); e != api.ErrMany {
		t.Error(e)
	}
	if l, e := s.Layout("a"); e != api.OK || l.Sides[0] != 64 {
		t.Error(l, e)
	}
}
