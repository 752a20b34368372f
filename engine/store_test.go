package engine_test

import (
	"bytes"
	"fmt"
	"slices"
	"testing"

	"tesseract/api"
	"tesseract/chunk"
	"tesseract/engine"
	"tesseract/space"
)

// grid returns a layout with some sides and overlaps, the first ones of them first.
func grid(l ...int) api.Layout {
	return api.Layout{Sides: l[:len(l)/2], Overlap: l[len(l)/2:], Order: api.RowMajor, Form: api.Dense, Codec: api.Plain}
}

// whole returns the whole box of an array.
func whole(a api.Array) api.Box {
	b, _ := space.Whole(a.Dims)
	return b
}

// stored returns a store with the array t in the layout of the chapter's example.
func stored() *engine.Store {
	s := engine.New()
	if s.Put("t", parse(table), grid(2, 2, 1, 0)) != api.OK {
		panic("an array that cannot be stored")
	}
	return s
}

func sameLayout(a, b api.Layout) bool {
	return slices.Equal(a.Sides, b.Sides) && slices.Equal(a.Overlap, b.Overlap) && a.Order == b.Order && a.Tile == b.Tile && a.Form == b.Form && a.Codec == b.Codec
}

// model is what a store must have: its arrays with their layouts, and the chunks whose bits are changed.
type model struct {
	db      api.DB // sorted by the names
	layouts map[string]api.Layout
	bits    map[string]map[int]bool // for the name and the numbers of each chunk the changed bits
}

func (m model) index(name string) int {
	return slices.IndexFunc(m.db, func(x api.Named) bool { return x.Name == name })
}

// bytesOf returns the bytes that a chunk must have.
func (m model) bytesOf(name string, c chunk.Chunk) []byte {
	a := m.db[m.index(name)].Array
	b, e := chunk.Encode(a.Dims, a.Attrs, m.layouts[name], c)
	if e != api.OK {
		panic("a chunk that cannot be encoded")
	}
	for bit := range m.bits[fmt.Sprint(name, c.No)] {
		b[bit/8] ^= 1 << (bit % 8)
	}
	return b
}

// compares checks that a store has what it must have.
func (m model) compares(t *testing.T, s *engine.Store) {
	t.Helper()
	db := s.Schemas()
	if len(db) != len(m.db) {
		t.Fatalf("%d arrays, not %d", len(db), len(m.db))
	}
	for k, x := range m.db {
		if db[k].Name != x.Name || !sameSchema(db[k].Array, x.Array) || len(db[k].Array.Cells) != 0 {
			t.Fatalf("the array %d is %v", k, db[k])
		}
		if l, e := s.Layout(x.Name); e != api.OK || !sameLayout(l, m.layouts[x.Name]) {
			t.Fatalf("%s: the layout is %v: %d", x.Name, l, e)
		}
		chunks, _ := chunk.Split(x.Array, m.layouts[x.Name])
		numbers, e := s.Chunks(x.Name)
		if e != api.OK || len(numbers) != len(chunks) {
			t.Fatalf("%s: the chunks are %v: %d", x.Name, numbers, e)
		}
		for k, c := range chunks {
			b, e := s.Bytes(x.Name, c.No)
			if !slices.Equal(numbers[k], c.No) || e != api.OK || !bytes.Equal(b, m.bytesOf(x.Name, c)) {
				t.Fatalf("%s: the chunk %v is not as it must be: %d", x.Name, c.No, e)
			}
		}
	}
}

// P7.4

func TestNew(t *testing.T) {
	s := engine.New()
	model{}.compares(t, s)
	if s.Put("t", parse(table), grid(2, 2, 1, 0)) != api.OK || len(engine.New().Schemas()) != 0 {
		t.Error("stores share arrays")
	}
}

func TestPut(t *testing.T) {
	a := parse(table)
	full := engine.New()
	for k := range api.MaxArrays {
		if e := full.Put(letters[k:k+1], a, grid(2, 2, 0, 0)); e != api.OK {
			t.Fatal(k, e)
		}
	}
	for _, x := range []struct {
		what string
		s    *engine.Store
		name string
		a    api.Array
		l    api.Layout
		want api.Errno
	}{
		{"an array that is not valid", stored(), "u", spoiledArrays()[0], grid(2, 2, 0, 0), api.ErrArg},
		{"no array", stored(), "T", api.Array{}, api.Layout{}, api.ErrArg},
		{"no array, and no room", full, "z", api.Array{}, api.Layout{}, api.ErrArg},
		{"a name that is none", stored(), "T", a, grid(2, 2, 0, 0), api.ErrName},
		{"no name", stored(), "", a, api.Layout{}, api.ErrName},
		{"a long name", full, "abcdefghijklm", a, api.Layout{}, api.ErrName},
		{"a name that is there", stored(), "t", a, grid(2, 2, 0, 0), api.ErrHave},
		{"a name that is there, and no layout", stored(), "t", a, api.Layout{}, api.ErrHave},
		{"a name that is there, and no room", full, "a", a, grid(2, 2, 0, 0), api.ErrHave},
		{"no room", full, "z", a, grid(2, 2, 0, 0), api.ErrMany},
		{"no room, and no layout", full, "z", a, api.Layout{}, api.ErrMany},
		{"no layout", stored(), "u", a, api.Layout{}, api.ErrShape},
		{"a layout for another array", stored(), "u", a, grid(2, 0), api.ErrShape},
		{"a side of 0", stored(), "u", a, grid(0, 2, 0, 0), api.ErrRange},
		{"chunks that are too large", stored(), "u", a, grid(64, 64, 1, 0), api.ErrMany},
		{"no order", stored(), "u", a, api.Layout{Sides: list(2, 2), Overlap: list(0, 0), Form: api.Dense, Codec: api.Plain}, api.ErrArg},
	} {
		before := x.s.Schemas()
		if e := x.s.Put(x.name, x.a, x.l); e != x.want || !slices.EqualFunc(before, x.s.Schemas(), func(a, b api.Named) bool { return a.Name == b.Name }) {
			t.Errorf("%s: error %d, not %d", x.what, e, x.want)
		}
	}
	if full.Drop("c") != api.OK || full.Put("z", a, grid(1, 1, 0, 0)) != api.OK || full.Put("c", a, grid(1, 1, 0, 0)) != api.ErrMany {
		t.Error("there is room for 16 arrays")
	}
}

func TestDropAndMove(t *testing.T) {
	s := stored()
	for _, x := range []struct {
		name string
		l    api.Layout
		want api.Errno
	}{
		{"u", grid(2, 2, 0, 0), api.ErrNone}, {"u", api.Layout{}, api.ErrNone}, {"", grid(2, 2, 0, 0), api.ErrNone}, {"t", api.Layout{}, api.ErrShape},
		{"t", grid(2, 65, 0, 0), api.ErrRange}, {"t", grid(2, 2, 3, 0), api.ErrRange}, {"t", grid(64, 64, 0, 1), api.ErrMany},
		{"t", api.Layout{Sides: list(2, 2), Overlap: list(0, 0), Order: api.Tiled, Form: api.Dense, Codec: api.Plain}, api.ErrArg},
	} {
		if e := s.Move(x.name, x.l); e != x.want {
			t.Errorf("Move of %s to %v: error %d, not %d", x.name, x.l, e, x.want)
		}
	}
	if e := s.Drop("u"); e != api.ErrNone {
		t.Error(e)
	}
	m := model{api.DB{{Name: "t", Array: parse(table)}}, map[string]api.Layout{"t": grid(2, 2, 1, 0)}, nil}
	m.compares(t, s)
	// A chunk that is damaged stops a Move, also if all cells are in the wide box of another one; the error of the layout comes first.
	m.layouts["t"] = grid(2, 2, 2, 0)
	if s.Move("t", m.layouts["t"]) != api.OK || s.Flip("t", list(1, 0), 3) != api.OK {
		t.Error("an error")
	}
	if e := s.Move("t", grid(1, 1, 0, 0)); e != api.ErrSum {
		t.Error(e)
	}
	if e := s.Move("t", api.Layout{}); e != api.ErrShape {
		t.Error(e)
	}
	if l, e := s.Layout("t"); e != api.OK || !sameLayout(l, m.layouts["t"]) || s.Flip("t", list(1, 0), 3) != api.OK {
		t.Error(l, e)
	}
	m.compares(t, s)
	if s.Drop("t") != api.OK || s.Drop("t") != api.ErrNone || s.Move("t", grid(1, 1, 0, 0)) != api.ErrNone {
		t.Error("the array is still there")
	}
	model{}.compares(t, s)
	if s.Put("t", parse(table), grid(1, 2, 0, 1)) != api.OK {
		t.Error("the name is still there")
	}
	m.layouts["t"] = grid(1, 2, 0, 1)
	m.compares(t, s)
}

// The first chunk with an error decides: bytes that end with a checksum of others, and a checksum that is wrong.
func TestMoveError(t *testing.T) {
	s := stored()
	forge(t, s, "t", list(0, 0), func(b []byte) { b[0]++ })
	if e := s.Flip("t", list(1, 0), 0); e != api.OK {
		t.Error(e)
	}
	if e := s.Move("t", grid(1, 1, 0, 0)); e != api.ErrForm {
		t.Error(e)
	}
	a, n, e := s.Get("t", box(0, 3, 0, 1))
	refused(t, "Get", a, n, e, api.ErrForm)
	a, n, e = s.Get("t", box(3, 3, 0, 1))
	refused(t, "Get", a, n, e, api.ErrSum)
}

// forge changes the bytes of a chunk, and gives them a checksum that fits, bit by bit.
func forge(t *testing.T, s *engine.Store, name string, no []int, change func(b []byte)) {
	t.Helper()
	before, e := s.Bytes(name, no)
	if e != api.OK {
		t.Fatal(e)
	}
	b := bytes.Clone(before)
	change(b)
	end := len(b) - 4
	sum := chunk.Sum(b[:end])
	copy(b[end:], []byte{byte(sum >> 24), byte(sum >> 16), byte(sum >> 8), byte(sum)})
	for bit := range 8 * len(b) {
		if (b[bit/8]^before[bit/8])>>(bit%8)&1 == 1 {
			if e := s.Flip(name, no, bit); e != api.OK {
				t.Fatal(e)
			}
		}
	}
	if after, _ := s.Bytes(name, no); !bytes.Equal(after, b) {
		t.Fatal("the bytes are not those that were forged")
	}
}

// P7.5

func TestNumbers(t *testing.T) {
	s := stored()
	l, e := s.Chunks("t")
	if e != api.OK || len(l) != 2 || !slices.Equal(l[0], list(0, 0)) || !slices.Equal(l[1], list(1, 0)) {
		t.Error(l, e)
	}
	for _, no := range [][]int{nil, {0}, {0, 1}, {1}, {2, 0}, {-1, 0}, {0, 0, 0}, {1, 0, 0, 0}, {1, 0, 0, 0, 0}, {0, 0, 0, 0, 9}} {
		if b, e := s.Bytes("t", no); e != api.ErrNone || len(b) != 0 {
			t.Error(no, b, e)
		}
		for _, bit := range []int{-1, 0, 1 << 40} {
			if e := s.Flip("t", no, bit); e != api.ErrNone {
				t.Error(no, bit, e)
			}
		}
	}
	if l, e := s.Layout("u"); e != api.ErrNone || !sameLayout(l, api.Layout{}) {
		t.Error(l, e)
	}
	if l, e := s.Chunks("u"); e != api.ErrNone || len(l) != 0 {
		t.Error(l, e)
	}
	if b, e := s.Bytes("u", list(0, 0)); e != api.ErrNone || len(b) != 0 {
		t.Error(b, e)
	}
	if e := s.Flip("u", list(0, 0), 0); e != api.ErrNone {
		t.Error(e)
	}
	a := parse(table)
	a.Cells = nil
	if e := s.Put("u", a, grid(2, 2, 0, 0)); e != api.OK {
		t.Error(e)
	}
	if l, e := s.Chunks("u"); e != api.OK || len(l) != 0 {
		t.Error(l, e)
	}
}

func TestFlip(t *testing.T) {
	s := stored()
	before, _ := s.Bytes("t", list(0, 0))
	for _, bit := range []int{-1, -1 << 62, 8 * len(before), 1 << 62} {
		if e := s.Flip("t", list(0, 0), bit); e != api.ErrRange {
			t.Error(bit, e)
		}
	}
	for bit := range 8 * len(before) {
		want := bytes.Clone(before)
		want[bit/8] ^= []byte{1, 2, 4, 8, 16, 32, 64, 128}[bit%8]
		for _, x := range [][]byte{want, before} {
			if e := s.Flip("t", list(0, 0), bit); e != api.OK {
				t.Error(bit, e)
			}
			if b, e := s.Bytes("t", list(0, 0)); e != api.OK || !bytes.Equal(b, x) {
				t.Error(bit, b, e)
			}
		}
	}
}

// P7.4, P7.5

// act does something with a store, and the same with the model of it.
func act(t *testing.T, d *dice, s *engine.Store, m *model) {
	t.Helper()
	name := letters[d.from(0, 5):][:1]
	k := m.index(name)
	if k < 0 {
		a := d.cells(pick(d, base()...).Array, d.from(0, 14))
		l := d.layout(a.Dims)
		if e := s.Put(name, a, l); e != api.OK {
			t.Fatal(name, e)
		}
		m.db = with(m.db, name, a)
		slices.SortFunc(m.db, func(a, b api.Named) int { return bytes.Compare([]byte(a.Name), []byte(b.Name)) })
		m.layouts[name] = l
		return
	}
	chunks, _ := chunk.Split(m.db[k].Array, m.layouts[name])
	switch d.next() % 4 {
	case 0:
		if e := s.Drop(name); e != api.OK {
			t.Fatal(name, e)
		}
		m.db = slices.Delete(m.db, k, k+1)
		clear(m.bits)
	case 1:
		l := d.layout(m.db[k].Array.Dims)
		if e := s.Move(name, l); e != api.OK {
			t.Fatal(name, e)
		}
		m.layouts[name] = l
	default:
		if len(chunks) > 0 {
			flips(t, d, s, m, name, pick(d, chunks...))
		}
	}
}

// flips changes some bits of a chunk, compares, and changes them again.
func flips(t *testing.T, d *dice, s *engine.Store, m *model, name string, c chunk.Chunk) {
	t.Helper()
	key := fmt.Sprint(name, c.No)
	m.bits[key] = map[int]bool{d.from(0, 79): true, d.from(0, 79): true}
	for bit := range m.bits[key] {
		if e := s.Flip(name, c.No, bit); e != api.OK {
			t.Fatal(name, e)
		}
	}
	m.compares(t, s)
	for bit := range m.bits[key] {
		if e := s.Flip(name, c.No, bit); e != api.OK {
			t.Fatal(name, e)
		}
	}
	clear(m.bits)
}

func TestStoreByModel(t *testing.T) {
	d := dice(75)
	m := model{nil, map[string]api.Layout{}, map[string]map[int]bool{}}
	s := engine.New()
	for range 300 {
		other := s.Copy()
		before := model{slices.Clone(m.db), map[string]api.Layout{}, nil}
		for name, l := range m.layouts {
			before.layouts[name] = l
		}
		act(t, &d, s, &m)
		m.compares(t, s)
		before.compares(t, other)
		if d.next()%8 == 0 { // the copy goes on, and what it was copied from changes
			s, other = s.Copy(), s
			if len(m.db) > 0 {
				other.Drop(m.db[0].Name)
			}
			m.compares(t, s)
		}
	}
}

// Copies do not share bytes.
func TestCopyBytes(t *testing.T) {
	s := stored()
	c := s.Copy()
	if s.Flip("t", list(0, 0), 5) != api.OK || c.Flip("t", list(1, 0), 6) != api.OK {
		t.Fatal("an error")
	}
	for _, x := range []struct {
		s    *engine.Store
		x    int
		want api.Errno
	}{{s, 0, api.ErrSum}, {s, 3, api.OK}, {c, 0, api.OK}, {c, 3, api.ErrSum}} {
		if _, _, e := x.s.Get("t", box(x.x, x.x, 0, 1)); e != x.want {
			t.Error(x.x, e)
		}
	}
	if c := c.Copy(); c.Flip("t", list(1, 0), 6) != api.OK || c.Move("t", grid(1, 1, 0, 0)) != api.OK {
		t.Error("a copy of a copy has other bytes")
	}
}
