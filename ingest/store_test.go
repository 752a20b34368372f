package ingest_test

import (
	"slices"
	"testing"

	"tesseract/api"
	"tesseract/ingest"
)

// P10.4

func TestFormatErrors(t *testing.T) {
	d := newDisk(64)
	s := format(t, d, base("1 1: 3\n"))
	put(t, s, batch("a", 1, "0 0: 1"), true, api.OK)
	w, n := d.Counts()
	bad := base("")
	bad[0].Array.Dims[0].Hi = -1
	expect := func(what string, db api.DB, want api.Errno) {
		t.Helper()
		if s, e := ingest.Format(d, db); s != nil || e != want {
			t.Error(what, s, e)
		}
	}
	expect("no arrays", nil, api.ErrArg)
	expect("no arrays", api.DB{}, api.ErrArg)
	expect("an array that is not valid", bad, api.ErrArg)
	expect("two arrays with the same name", append(base(""), base("")...), api.ErrArg)
	expect("a name that is none", api.DB{{Name: "T", Array: base("")[0].Array}}, api.ErrArg)
	expect("too many arrays", wideDB(17, 0), api.ErrArg)
	expect("too much", wideDB(4, 0), api.ErrFull)
	expect("too much", wideDB(1, 8), api.ErrFull)
	if w2, n2 := d.Counts(); w2 != w || n2 != n {
		t.Error("a Format with an error wrote")
	}
	expectTokens(t, s, "a") // nothing has changed
	expectDB(t, open(t, d), base("0 0: 1\n1 1: 3\n"))
	d.Crash(nil)
	expect("the power is off", wideDB(4, 0), api.ErrDown)
	expect("the power is off", nil, api.ErrArg)
}

// TestFormat: the use of databases, up to what just has room.
func TestFormat(t *testing.T) {
	for _, x := range []struct{ sectors, arrays, cells, room int }{
		{64, 1, 0, 22}, {65, 1, 0, 22}, {66, 1, 0, 23}, {64, 3, 0, 6}, {64, 1, 7, 1}, {62 + 2*16, 1, 12, 1}, {2048, 16, 18, 30}, {2 + 2*129, 16, 0, 0}, {2048, 1, 338, 0},
	} {
		d := newDisk(x.sectors)
		for i := range x.sectors {
			d.Write(i, fill(1)) // what was on the disk before is lost
		}
		db := wideDB(x.arrays, x.cells)
		s := format(t, d, db)
		expectRoom(t, s, x.room)
		expectTokens(t, s)
		expectDB(t, s, db)
		o := open(t, d)
		expectRoom(t, o, x.room)
		expectTokens(t, o)
		expectDB(t, o, db)
		expectDown(t, s)
	}
	for _, x := range []struct{ sectors, arrays, cells int }{{64, 1, 8}, {64, 4, 0}, {2 + 2*129 - 1, 16, 0}, {2048, 1, 339}, {2048, 16, 4096}} {
		if s, e := ingest.Format(newDisk(x.sectors), wideDB(x.arrays, x.cells)); s != nil || e != api.ErrFull {
			t.Error(x, e)
		}
	}
}

func TestFormatAgain(t *testing.T) {
	d := newDisk(200)
	for k := range 5 {
		s := format(t, d, base("1 1: 3\n"))
		expectRoom(t, s, 87)
		for range k {
			expectErrno(t, "Compact", s.Compact(), api.OK)
		}
		put(t, s, batch("a", 1, "0 0: 1; 1 0: 2"), true, api.OK)
		o := format(t, d, base(""))
		expectDown(t, s)
		expectTokens(t, o)
		o = open(t, d)
		expectTokens(t, o)
		expectRoom(t, o, 90)
		expectDB(t, o, base(""))
		put(t, o, batch("a", 0, "0 0: 2"), true, api.OK)
		expectErrno(t, "Compact", o.Compact(), api.OK)
		expectDB(t, open(t, d), base("0 0: 2\n"))
	}
}

func TestOpenErrors(t *testing.T) {
	d := newDisk(64)
	expect := func(what string, want api.Errno) {
		t.Helper()
		if s, e := ingest.Open(d); s != nil || e != want {
			t.Error(what, s, e)
		}
	}
	expect("an empty disk", api.ErrForm)
	for b := range 256 {
		for i := range 64 {
			d.Write(i, fill(byte(b)))
		}
		expect("a disk with bytes", api.ErrForm)
	}
	d.Crash(nil)
	expect("the power is off", api.ErrDown)
	d.Restart()
	format(t, d, base(""))
	d.Crash(nil)
	expect("the power is off", api.ErrDown)
	d.Restart()
	expectDB(t, open(t, d), base(""))
}

// TestOldStores: only the store that was opened last can be used; and one that did nothing when the power failed can be used again.
func TestOldStores(t *testing.T) {
	d := newDisk(64)
	a := format(t, d, base(""))
	put(t, a, batch("a", 1, "0 0: 1"), true, api.OK)
	d.Crash([]byte{1})
	expectDown(t, a)
	d.Restart()
	put(t, a, batch("b", 1, "0 0: 2"), true, api.OK)
	expectTokens(t, a, "a", "b")
	b := open(t, d)
	expectDown(t, a)
	put(t, b, batch("c", 1, "0 0: 3"), true, api.OK)
	d.Fuse(0, nil)
	put(t, b, batch("e", 1, "0 0: 3"), false, api.ErrDown)
	d.Restart()
	expectDown(t, a)
	expectDown(t, b)
	c := open(t, d)
	expectTokens(t, c, "a", "b", "c")
	d.Fuse(0, nil)
	expectErrno(t, "Compact", c.Compact(), api.ErrDown)
	d.Restart()
	expectDown(t, c)
	e := open(t, d)
	for _, s := range []*ingest.Store{a, b, c} {
		expectDown(t, s)
	}
	expectTokens(t, e, "a", "b", "c")
	other := format(t, newDisk(64), base("")) // on another disk
	expectTokens(t, other)
	expectTokens(t, e, "a", "b", "c")
}

// TestCrashOfFormat: whatever is on the disk then, nothing panics, and the disk can be formatted again.
func TestCrashOfFormat(t *testing.T) {
	for n := 0; ; n++ {
		for _, picks := range somePicks() {
			d := newDisk(64)
			s := format(t, d, base("0 0: 1\n"))
			put(t, s, batch("a", 1, "0 0: 2"), true, api.OK)
			expectErrno(t, "Compact", s.Compact(), api.OK)
			d.Fuse(n, picks)
			o, e := ingest.Format(d, base("1 1: 1\n"))
			if !d.Down() {
				if e != api.OK || n == 0 {
					t.Error(n, e)
				}
				return
			}
			if o != nil || e != api.ErrDown {
				t.Fatal(n, o, e)
			}
			d.Restart()
			s.Put(batch("b", 1, "0 0: 3"))
			s.Compact()
			ingest.Open(d)
			s = format(t, d, base("1 0: 1\n"))
			expectDB(t, s, base("1 0: 1\n"))
			expectDB(t, open(t, d), base("1 0: 1\n"))
		}
	}
}

// P10.5

func TestPutErrors(t *testing.T) {
	d := newDisk(64)
	s := format(t, d, base(""))
	put(t, s, batch("have", 1, "0 0: 1; 0 1: 1; 1 0: 1; 1 1: 1; 2 0: 1"), true, api.OK)
	many := "0 0:;"
	for range 4 {
		many += many
	}
	for _, x := range []struct {
		b    ingest.Batch
		want api.Errno
	}{
		{ingest.Batch{Token: "", Stamp: -1}, api.ErrName},
		{ingest.Batch{Token: "D", Stamp: -1}, api.ErrName},
		{ingest.Batch{Token: "abcdefghijklm", Stamp: -1}, api.ErrName},
		{ingest.Batch{Token: "e", Stamp: -1}, api.ErrRange},
		{ingest.Batch{Token: "e", Stamp: ingest.MaxStamp + 1, Array: "t"}, api.ErrRange},
		{ingest.Batch{Token: "e", Array: "u"}, api.ErrNone},
		{ingest.Batch{Token: "e", Array: ""}, api.ErrNone},
		{batch("e", 1, ""), api.ErrMany},
		{batch("e", 1, many+"9 9:"), api.ErrMany},
		{batch("e", 1, many), api.ErrHave},
		{batch("e", 1, "9: 1"), api.ErrShape},
		{batch("e", 1, ":"), api.ErrShape},
		{batch("e", 1, "9 0 0:"), api.ErrShape},
		{batch("e", 1, "9 0: 1/2 1"), api.ErrShape},
		{batch("e", 1, "4 0: true"), api.ErrRange},
		{batch("e", 1, "0 -1:"), api.ErrRange},
		{batch("e", 1, "0 0: 1; 3 2: 1"), api.ErrRange},
		{batch("e", 1, "0 0: 1/2; 0:"), api.ErrType},
		{batch("e", 1, "0 0: true"), api.ErrType},
		{batch("e", 1, "0 0: 'a'"), api.ErrType},
		{ingest.Batch{Token: "e", Array: "t", Changes: []api.Change{{At: list(0, 0), Vals: vals(none(0))}}}, api.ErrType},
		{batch("e", 1, "0 1: 1; 0 1: 1; 4 0: 1"), api.ErrRange},
		{batch("e", 1, "0 1: 1; 1 1: 1; 0 1:"), api.ErrHave},
		{batch("have", -1, "0 0: 1"), api.ErrRange},
		{batch("have", 1, ""), api.ErrMany},
		{batch("e", 1, "0 0: 1; 3 1:"), api.ErrFull},
		{batch("have", 1, "0 0: 2"), api.OK},
	} {
		w, n := d.Counts()
		put(t, s, x.b, false, x.want)
		if w2, n2 := d.Counts(); w2 != w || n2 != n {
			t.Error(x.b, "was refused, but written")
		}
	}
	expectTokens(t, s, "have")
	expectRoom(t, s, 5)
	expectDB(t, s, base("0 0: 1\n0 1: 1\n1 0: 1\n1 1: 1\n2 0: 1\n"))
}

func TestPut(t *testing.T) {
	d := newDisk(200)
	s := format(t, d, base("0 0: 1\n3 0: 2\n"))
	for _, x := range []struct {
		b    ingest.Batch
		want string
	}{
		{batch("b", 0, "0 0:; 1 0: 5"), "1 0: 5\n3 0: 2\n"}, // newer than the beginning
		{batch("a", 0, "0 0: 9; 1 0: 9; 1 1: ?7"), "1 0: 5\n1 1: ?7\n3 0: 2\n"},
		{batch("ba", 0, "0 0: 4; 1 0:; 3 0: ?1"), "0 0: 4\n1 1: ?7\n3 0: ?1\n"},
		{batch("c", ingest.MaxStamp, "3 0:"), "0 0: 4\n1 1: ?7\n"},
		{batch("b_", ingest.MaxStamp, "3 0: 8"), "0 0: 4\n1 1: ?7\n"},
		{batch("d", ingest.MaxStamp-1, "3 0: 8; 2 0: 3"), "0 0: 4\n1 1: ?7\n2 0: 3\n"},
	} {
		put(t, s, x.b, true, api.OK)
		expectDB(t, s, base(x.want))
		b := x.b
		b.Stamp, b.Changes = ingest.MaxStamp, changes("0 0: 77")
		put(t, s, b, false, api.OK) // again
		expectDB(t, s, base(x.want))
	}
	expectTokens(t, s, "b", "a", "ba", "c", "b_", "d")
	expectRoom(t, s, 99-1-8-6-6*2-3*(2+3+3+1+1+2))
	expectDB(t, open(t, d), base("0 0: 4\n1 1: ?7\n2 0: 3\n"))
}

// TestPutOfLastRoom: a batch that just has room, and one that needs one sector more.
func TestPutOfLastRoom(t *testing.T) {
	for _, x := range []struct {
		sectors int
		want    bool
	}{{2 + 2*59, true}, {2 + 2*59 - 1, false}, {2 + 2*60, true}} {
		d := newDisk(x.sectors)
		s := format(t, d, wideDB(1, 0))
		e := api.OK
		if !x.want {
			e = api.ErrFull
		}
		put(t, s, wideBatch("abcdefghijkl", 0, 16), x.want, e)
		for range 2 {
			n := 0
			if db, _ := s.DB(); len(db) == 1 {
				n = len(db[0].Array.Cells)
			}
			if (n == 16) != x.want {
				t.Error(x, n)
			}
			expectErrno(t, "Compact", s.Compact(), api.OK)
			s = open(t, d)
		}
	}
}

// P10.6, P10.7

func TestStoreExamples(t *testing.T) {
	d := newDisk(64)
	s := format(t, d, base(""))
	expectRoom(t, s, 22)
	put(t, s, batch("a", 5, "0 0: 1; 1 0: 2"), true, api.OK)
	put(t, s, batch("b", 4, "1 0: 3; 3 1: 4"), true, api.OK)
	expectDB(t, s, base("0 0: 1\n1 0: 2\n3 1: 4\n"))
	expectRoom(t, s, 6)
	put(t, s, batch("a", 9, "0 0: 8"), false, api.OK)
	put(t, s, batch("c", 5, "0 0:"), true, api.OK)
	expectRoom(t, s, 1)
	expectDB(t, s, base("1 0: 2\n3 1: 4\n"))
	put(t, s, batch("d", 1, "0 1: 1"), false, api.ErrFull)
	expectErrno(t, "Compact", s.Compact(), api.OK)
	expectRoom(t, s, 10)
	expectTokens(t, s, "a", "b", "c")
	put(t, s, batch("d", 5, "0 0: 7"), true, api.OK)
	expectDB(t, s, base("0 0: 7\n1 0: 2\n3 1: 4\n"))
	put(t, s, ingest.Batch{Token: "D"}, false, api.ErrName)
	put(t, s, ingest.Batch{Token: "e", Stamp: -1}, false, api.ErrRange)
	put(t, s, batch("e", 1, ""), false, api.ErrMany)
	put(t, s, batch("e", 1, "4 0: 1"), false, api.ErrRange)
}

// TestCompact: what a compacted store needs, also for coordinates that are empty, and how it goes on.
func TestCompact(t *testing.T) {
	d := newDisk(202)
	s := format(t, d, base("0 0: 1\n3 0: 2\n"))
	expectErrno(t, "Compact", s.Compact(), api.OK)
	expectRoom(t, s, 100-1-8-6)
	put(t, s, batch("a", 3, "0 0:; 1 0: 5; 1 1:"), true, api.OK)
	put(t, s, batch("b", 2, "1 0: 6; 1 1: 6"), true, api.OK)
	expectRoom(t, s, 100-1-8-6-11-8)
	expectErrno(t, "Compact", s.Compact(), api.OK)
	expectRoom(t, s, 100-1-8-2-12)
	put(t, s, batch("c", 2, "0 0: 4; 1 1: 4; 2 0: 4"), true, api.OK) // older than a
	expectRoom(t, s, 100-1-8-2-12-11)
	want := base("1 0: 5\n2 0: 4\n3 0: 2\n")
	for k := range 4 {
		expectDB(t, s, want)
		expectTokens(t, s, "a", "b", "c")
		if k%2 == 0 {
			s = open(t, d)
			continue
		}
		expectErrno(t, "Compact", s.Compact(), api.OK)
		expectRoom(t, s, 100-1-8-3-15)
	}
	d.Crash(nil)
	expectErrno(t, "Compact with the power off", s.Compact(), api.ErrDown)
}

// TestGreatBatches: what is counted is enough for the longest names, tokens and values, in batches and in what remains of them.
func TestGreatBatches(t *testing.T) {
	d := newDisk(2 + 2*(1+2*8+2*3*2+4*50))
	db := wideDB(2, 2)
	s := format(t, d, db)
	spec := specStore{room: 1 + 2*8 + 2*3*2 + 4*50, beginning: db, compacted: -1}
	for k, token := range []string{"abcdefghijkl", "bbcdefghijkl", "cbcdefghijkl", "zzzzzzzzzzzz"} {
		b := wideBatch(token, 16*k, 16)
		put(t, s, b, true, api.OK)
		spec, _ = spec.after(b)
	}
	expectRoom(t, s, 0)
	compareStores(t, s, spec)
	expectErrno(t, "Compact", s.Compact(), api.OK)
	compareStores(t, s, spec.compact())
	compareStores(t, open(t, d), spec.compact())
}

func TestManyTokens(t *testing.T) {
	d := newDisk(2 + 2*(1+8+3+30))
	s := format(t, d, base(""))
	var want []string
	for k := 0; ; k++ {
		b := batch("token", int64(k), "0 0: 1")
		b.Token += string(rune('z'-k%26)) + string(rune('a'+k/26))
		is, e := s.Put(b)
		if is {
			want = append(want, b.Token)
			continue
		}
		before := len(want)
		expectErrno(t, k, e, api.ErrFull)
		expectErrno(t, "Compact", s.Compact(), api.OK)
		expectRoom(t, s, 30-before)
		if is, e := s.Put(b); !is {
			expectErrno(t, k, e, api.ErrFull)
			break
		}
		want = append(want, b.Token)
	}
	if len(want) != 26 {
		t.Error(len(want), "tokens")
	}
	expectTokens(t, s, want...)
	o := open(t, d)
	expectTokens(t, o, want...)
	if slices.IsSorted(want) {
		t.Error("sorted tokens show no order")
	}
}

// compareStores compares a store with one of the chapter's words. Its questions write nothing.
func compareStores(t *testing.T, s *ingest.Store, spec specStore) {
	t.Helper()
	expectRoom(t, s, spec.left())
	expectTokens(t, s, spec.tokens()...)
	expectDB(t, s, spec.db())
}

// TestStoresAsSaid compares stores with those of the chapter's words, through batches with and without errors, compactions, openings and crashes while they do nothing.
func TestStoresAsSaid(t *testing.T) {
	d := dice(2)
	for range 150 {
		disk, db := newDisk(d.from(64, 400)), d.db()
		spec := specStore{room: (disk.Sectors() - 2) / 2, beginning: db, compacted: -1}
		s, e := ingest.Format(disk, db)
		if spec.left() < 0 {
			expectErrno(t, "Format", e, api.ErrFull)
			continue
		}
		expectErrno(t, "Format", e, api.OK)
		for range 25 {
			switch d.next() % 10 {
			case 0:
				expectErrno(t, "Compact", s.Compact(), api.OK)
				spec = spec.compact()
			case 1:
				s = open(t, disk)
			case 2:
				disk.Crash(d.picks())
				disk.Restart()
			default:
				spec = d.put(t, s, spec)
			}
			w, n := disk.Counts()
			compareStores(t, s, spec)
			if w2, n2 := disk.Counts(); w2 != w || n2 != n {
				t.Fatal("a question was written")
			}
		}
	}
}

// put puts a batch into a store, and returns the store of the chapter after it.
func (d *dice) put(t *testing.T, s *ingest.Store, spec specStore) specStore {
	t.Helper()
	b := d.batch(spec.beginning)
	if d.next()%3 == 0 {
		b = d.spoiled(spec.beginning, b)
	}
	after, hasRoom := spec.after(b)
	switch e := spec.error(b); {
	case e != api.OK:
		put(t, s, b, false, e)
	case spec.has(b.Token):
		put(t, s, b, false, api.OK)
	case !hasRoom:
		put(t, s, b, false, api.ErrFull)
	default:
		put(t, s, b, true, api.OK)
		return after
	}
	return spec
}
