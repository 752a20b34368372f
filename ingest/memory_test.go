package ingest_test

import (
	"slices"
	"testing"

	"tesseract/api"
	"tesseract/ingest"
)

// R3

func TestNotADisk(t *testing.T) {
	copied := *newDisk(64)
	for k, d := range []*ingest.Disk{nil, {}, new(ingest.Disk), &copied} {
		b, e := d.Read(-1)
		if len(b) != 0 || e != api.ErrNil {
			t.Error(k, b, e)
		}
		s, e := ingest.Format(d, nil)
		if s != nil || e != api.ErrNil {
			t.Error(k, s, e)
		}
		s, e = ingest.Open(d)
		if s != nil || e != api.ErrNil {
			t.Error(k, s, e)
		}
		for _, e := range []api.Errno{d.Write(-1, nil), d.Write(0, fill(1)), d.Sync(), d.Fuse(-1, nil), d.Fuse(0, nil), d.Crash(make([]byte, 257)), d.Restart()} {
			expectErrno(t, k, e, api.ErrNil)
		}
		if w, n := d.Counts(); w != 0 || n != 0 || d.Sectors() != 0 || d.Down() || d.Copy() != nil {
			t.Error(k, "zero values")
		}
	}
}

func TestNotAStore(t *testing.T) {
	d := newDisk(64)
	copied := *format(t, d, base(""))
	for range 2 { // the second time with the power off
		for k, s := range []*ingest.Store{nil, {}, new(ingest.Store), &copied} {
			for _, b := range []ingest.Batch{{}, batch("a", 1, "0 0: 1")} {
				put(t, s, b, false, api.ErrNil)
			}
			expectErrno(t, k, s.Compact(), api.ErrNil)
			db, e := s.DB()
			if len(db) != 0 || e != api.ErrNil {
				t.Error(k, db, e)
			}
			l, e := s.Tokens()
			if len(l) != 0 || e != api.ErrNil {
				t.Error(k, l, e)
			}
			if n, e := s.Room(); n != 0 || e != api.ErrNil {
				t.Error(k, n, e)
			}
		}
		d.Crash(nil)
	}
}

// R5

// roomy returns a copy of a list with filled elements behind its end.
func roomy[E any](l []E, fill E) []E {
	out := make([]E, len(l), len(l)+3)
	copy(out, l)
	for k := len(l); k < cap(out); k++ {
		out[:cap(out)][k] = fill
	}
	return out
}

// spoil overwrites all elements of a list, also those behind its end.
func spoil[E any](l []E, with E) {
	l = l[:cap(l)]
	for k := range l {
		l[k] = with
	}
}

func TestMemoryOfDisks(t *testing.T) {
	d := newDisk(64)
	b := roomy(fill(1), 99)
	d.Write(1, b)
	if !slices.Equal(b[:cap(b)], append(fill(1), 99, 99, 99)) {
		t.Error("an argument was changed", b[:cap(b)])
	}
	spoil(b, 77)
	expectSector(t, d, 1, 64, 1)
	c, _ := d.Read(1)
	spoil(c, 77)
	expectSector(t, d, 1, 64, 1)
	picks := roomy([]byte{0, 64}, 99)
	d.Fuse(1, picks)
	copied := d.Copy()
	spoil(picks, 63)
	d.Write(2, fill(2))
	d.Write(2, fill(3))
	d.Restart()
	expectSector(t, d, 1, 64, 0)
	expectSector(t, d, 2, 64, 2)
	copied.Write(2, fill(4))
	copied.Sync()
	copied.Restart()
	expectSector(t, copied, 1, 64, 0)
	expectSector(t, copied, 2, 64, 4)
}

// spoilDB overwrites all memory of a database.
func spoilDB(db api.DB) {
	for _, x := range db {
		for _, c := range x.Array.Cells {
			spoil(c.At, -77)
			spoil(c.Vals, none(99))
		}
		spoil(x.Array.Dims, dim("spoiled", 0, 0))
		spoil(x.Array.Attrs, api.Attr{})
		spoil(x.Array.Cells, api.Cell{})
	}
	spoil(db, api.Named{})
}

// roomyDB returns a copy whose slices have filled elements behind their ends.
func roomyDB(db api.DB) api.DB {
	db = roomy(db, api.Named{Name: "behind"})
	for k, x := range db {
		a := api.Array{Dims: roomy(x.Array.Dims, dim("behind", 0, 0)), Attrs: roomy(x.Array.Attrs, api.Attr{Name: "behind"}), Cells: roomy(x.Array.Cells, api.Cell{At: list(2, 1)})}
		for i, c := range a.Cells {
			a.Cells[i] = api.Cell{At: roomy(c.At, -99), Vals: roomy(c.Vals, none(99))}
		}
		db[k].Array = a
	}
	return db
}

// roomyChanges does the same for changes.
func roomyChanges(l []api.Change) []api.Change {
	l = roomy(l, api.Change{At: list(2, 1)})
	for k, c := range l {
		l[k] = api.Change{At: roomy(c.At, -99), Vals: roomy(c.Vals, none(99))}
	}
	return l
}

// expectBehind checks that the elements behind the end of a list are as they were.
func expectBehind[E comparable](t *testing.T, l []E, fill E) {
	t.Helper()
	for _, x := range l[:cap(l)][len(l):] {
		if x != fill {
			t.Error("an argument was changed behind its end", x)
		}
	}
}

func TestMemoryOfStores(t *testing.T) {
	const cells = "0 0: 5\n1 0: 7\n"
	db := roomyDB(base(cells))
	d := newDisk(100)
	s := format(t, d, db)
	if !sameDB(db, base(cells)) || db[:2][1].Name != "behind" {
		t.Error("an argument was changed", text(db))
	}
	a := db[0].Array
	expectBehind(t, a.Dims, dim("behind", 0, 0))
	expectBehind(t, a.Attrs, api.Attr{Name: "behind"})
	expectBehind(t, a.Cells[1].At, -99)
	expectBehind(t, a.Cells[1].Vals, none(99))
	spoilDB(db)
	expectDB(t, s, base(cells))

	b := batch("a", 1, "")
	b.Changes = roomyChanges(changes("3 1: 8; 0 0: 6; 1 0:"))
	put(t, s, b, true, api.OK)
	for k, c := range changes("3 1: 8; 0 0: 6; 1 0:") {
		x := b.Changes[k]
		if !slices.Equal(x.At, c.At) || !slices.Equal(x.Vals, c.Vals) {
			t.Error("an argument was changed", x)
		}
		expectBehind(t, x.At, -99)
		expectBehind(t, x.Vals, none(99))
		spoil(x.At, -77)
		spoil(x.Vals, num(77))
	}
	spoil(b.Changes, api.Change{})
	for k := range 6 { // what the first calls returned is overwritten before the next ones
		expectDB(t, s, base("0 0: 6\n3 1: 8\n"))
		expectTokens(t, s, "a")
		x, _ := s.DB()
		spoilDB(x)
		l, _ := s.Tokens()
		spoil(l, "spoiled")
		switch k {
		case 2:
			expectErrno(t, "Compact", s.Compact(), api.OK)
		case 4:
			s = open(t, d)
		}
	}
}
