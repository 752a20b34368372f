package ingest_test

import (
	"fmt"
	"slices"
	"strconv"
	"strings"
	"testing"

	"tesseract/api"
	"tesseract/exact"
	"tesseract/ingest"
	"tesseract/space"
)

// dice makes numbers that look random, the same ones in each run.
type dice uint64

func (d *dice) next() uint64 {
	*d = *d*6364136223846793005 + 1442695040888963407
	x := uint64(*d)
	return x ^ x>>29
}

// from returns a number from lo to hi.
func (d *dice) from(lo, hi int) int { return lo + int(d.next()%uint64(hi-lo+1)) }

// pick returns one of the elements of a list.
func pick[E any](d *dice, l ...E) E { return l[d.from(0, len(l)-1)] }

// bytes returns some bytes.
func (d *dice) bytes(n int) []byte {
	out := make([]byte, n)
	for k := range out {
		out[k] = byte(d.next())
	}
	return out
}

// picks returns picks with which the power fails; often whole sectors, or nothing, are written.
func (d *dice) picks() []byte {
	out := d.bytes(d.from(0, 5))
	for k := range out {
		out[k] = pick(d, out[k], out[k], 0, 1, 63, 64, 129, 131)
	}
	return out
}

func num(n int64) api.Val                 { return api.Val{Kind: api.KNum, N: n, D: 1} }
func none(reason int64) api.Val           { return api.Val{Kind: api.KMissing, N: reason} }
func dim(name string, lo, hi int) api.Dim { return api.Dim{Name: name, Lo: lo, Hi: hi} }
func list(l ...int) []int                 { return l }
func vals(l ...api.Val) []api.Val         { return l }

// table is the string of the array of the chapter's examples.
const table = "dim x 0:3\ndim y 0:1\nattr v int\n"

// parse returns the array of a string.
func parse(s string) api.Array {
	a, e := space.Parse(s)
	if e != api.OK {
		panic("not the string of an array: " + s)
	}
	return a
}

// base returns the database of the chapter's examples, with some cells such as `0 0: 5\n`.
func base(cells string) api.DB { return api.DB{{Name: "t", Array: parse(table + cells)}} }

// changes returns the changes of a string such as `0 0: 6; 3 1:`.
func changes(s string) []api.Change {
	var out []api.Change
	for part := range strings.SplitSeq(s, ";") {
		at, values, ok := strings.Cut(part, ":")
		if !ok {
			continue
		}
		var c api.Change
		for x := range strings.FieldsSeq(at) {
			n, _ := strconv.Atoi(x)
			c.At = append(c.At, n)
		}
		for x := range strings.FieldsSeq(values) {
			v, e := exact.Read(x)
			if e != api.OK {
				panic("not a value: " + x)
			}
			c.Vals = append(c.Vals, v)
		}
		out = append(out, c)
	}
	return out
}

// batch returns a batch for the array t.
func batch(token string, stamp int64, l string) ingest.Batch {
	return ingest.Batch{Token: token, Stamp: stamp, Array: "t", Changes: changes(l)}
}

// newDisk returns a disk.
func newDisk(sectors int) *ingest.Disk {
	d, e := ingest.NewDisk(sectors)
	if e != api.OK {
		panic(fmt.Sprint("error ", e))
	}
	return d
}

// format and open return the store of a disk.
func format(t *testing.T, d *ingest.Disk, db api.DB) *ingest.Store {
	t.Helper()
	s, e := ingest.Format(d, db)
	if e != api.OK {
		t.Fatal("Format:", e)
	}
	return s
}

func open(t *testing.T, d *ingest.Disk) *ingest.Store {
	t.Helper()
	s, e := ingest.Open(d)
	if e != api.OK {
		t.Fatal("Open:", e)
	}
	return s
}

func put(t *testing.T, s *ingest.Store, b ingest.Batch, want bool, f api.Errno) {
	t.Helper()
	if is, e := s.Put(b); is != want || e != f {
		t.Fatal("Put", b, is, e, "not", want, f)
	}
}

func expectErrno(t *testing.T, what any, e, want api.Errno) {
	t.Helper()
	if e != want {
		t.Fatalf("%v: error %d, not %d", what, e, want)
	}
}

// expectSector compares the bytes of a sector, given as pairs of how many and which ones.
func expectSector(t *testing.T, d *ingest.Disk, i int, pairs ...int) {
	t.Helper()
	var want []byte
	for k := 0; k < len(pairs); k += 2 {
		want = append(want, slices.Repeat([]byte{byte(pairs[k+1])}, pairs[k])...)
	}
	if b, e := d.Read(i); e != api.OK || !slices.Equal(b, want) {
		t.Fatal("sector", i, b, e, "not", want)
	}
}

func expectRoom(t *testing.T, s *ingest.Store, want int) {
	t.Helper()
	if n, e := s.Room(); n != want || e != api.OK {
		t.Fatal("Room:", n, e, "not", want)
	}
}

func expectTokens(t *testing.T, s *ingest.Store, want ...string) {
	t.Helper()
	if l, e := s.Tokens(); !slices.Equal(l, want) || e != api.OK {
		t.Fatal("Tokens:", l, e, "not", want)
	}
}

func expectDB(t *testing.T, s *ingest.Store, want api.DB) {
	t.Helper()
	db, e := s.DB()
	if e != api.OK || space.Database(db) != api.OK {
		t.Fatal("DB:", db, e)
	}
	if !sameDB(db, want) {
		t.Fatal("DB:", text(db), "not", text(want))
	}
}

func sameDB(a, b api.DB) bool {
	return slices.EqualFunc(a, b, func(x, y api.Named) bool { return x.Name == y.Name && space.Same(x.Array, y.Array) })
}

func text(db api.DB) string {
	var out strings.Builder
	for _, x := range db {
		s, _ := space.Print(x.Array)
		out.WriteString(x.Name + "\n" + s)
	}
	return out.String()
}

// expectDown checks that a store cannot be used.
func expectDown(t *testing.T, s *ingest.Store) {
	t.Helper()
	db, e := s.DB()
	tokens, f := s.Tokens()
	room, g := s.Room()
	is, h := s.Put(ingest.Batch{Token: "A"})
	for _, e := range []api.Errno{e, f, g, h, s.Compact()} {
		if e != api.ErrDown {
			t.Fatal("a store that is down has the error", e)
		}
	}
	if db != nil || tokens != nil || room != 0 || is {
		t.Fatal("results with an error", db, tokens, room, is)
	}
}

// fill returns a sector of equal bytes.
func fill(b byte) []byte { return slices.Repeat([]byte{b}, ingest.SectorBytes) }

// wideDB returns a database whose names, cells and batches need as many bytes as there can be; it has some cells.
func wideDB(arrays, cells int) api.DB {
	var db api.DB
	for k := range arrays {
		a := api.Array{}
		for _, s := range []string{"a", "b", "c", "d"} {
			a.Dims = append(a.Dims, dim("dimension__"+s, -api.MaxCoord, api.MaxCoord+k%2))
		}
		for i, s := range []string{"e", "f", "g", "h", "i", "j"} {
			a.Attrs = append(a.Attrs, api.Attr{Name: "attribute__" + s, Type: api.TRat + i%2})
		}
		for i := range cells {
			a.Cells = append(a.Cells, api.Cell(wideChange(i-cells)))
		}
		db = append(db, api.Named{Name: "long_name_a" + string(rune('a'+k)), Array: a})
	}
	return db
}

// wideChange returns a change of an array of wideDB; those with lower numbers come first.
func wideChange(i int) api.Change {
	c := api.Change{At: list(-api.MaxCoord, api.MaxCoord, api.MaxCoord-9999+i, -api.MaxCoord)}
	for k := range api.MaxAttrs {
		v := api.Val{Kind: api.KText, S: "''''''''''''''''"}
		if k%2 == 0 {
			v = api.Val{Kind: api.KNum, N: -api.MaxNum + 1, D: api.MaxNum}
		}
		c.Vals = append(c.Vals, v)
	}
	return c
}

// wideBatch returns a batch for the first array of wideDB, with changes from one coordinate on.
func wideBatch(token string, first, n int) ingest.Batch {
	b := ingest.Batch{Token: token, Stamp: ingest.MaxStamp, Array: "long_name_aa"}
	for i := range n {
		b.Changes = append(b.Changes, wideChange(first+i))
	}
	return b
}
