package ingest_test

import (
	"testing"

	"tesseract/api"
	"tesseract/ingest"
)

// P10.8

// somePicks returns picks that tear sectors in different ways.
func somePicks() [][]byte {
	return [][]byte{nil, {64}, {1}, {63}, {129}, {131}, {64, 0}, {0, 64}, {0, 0, 64}, {64, 64, 0}, {33, 160, 64, 7, 191}}
}

// call is a call of a method of a store.
type call func(s *ingest.Store) api.Errno

// putting returns the call of Put. If the power fails, it must not say that the batch is committed.
func putting(t *testing.T, b ingest.Batch) call {
	return func(s *ingest.Store) api.Errno {
		is, e := s.Put(b)
		if is != (e == api.OK) {
			t.Fatal("Put", is, e)
		}
		return e
	}
}

// crash opens the store of a disk, lets the power fail in an operation of a call, restarts the disk, and reports whether the power failed.
func crash(t *testing.T, d *ingest.Disk, n int, picks []byte, c call) bool {
	t.Helper()
	s := open(t, d)
	d.Fuse(n, picks)
	e := c(s)
	failed := d.Down()
	if failed != (e == api.ErrDown) || !failed && e != api.OK {
		t.Fatal("operation", n, "picks", picks, "error", e)
	}
	d.Restart()
	if failed {
		expectDown(t, s)
	}
	return failed
}

// expectPrefix opens the store of a disk, checks that it has just some batches, or one more, and returns it as the chapter's words say it.
// Its use may be as it was, or as it is after a compaction.
func expectPrefix(t *testing.T, d *ingest.Disk, spec specStore, more ...ingest.Batch) specStore {
	t.Helper()
	s := open(t, d)
	tokens, _ := s.Tokens()
	if len(tokens) > len(spec.batches) && len(more) > 0 {
		spec, _ = spec.after(more[0])
	}
	if n, _ := s.Room(); n != spec.left() {
		spec = spec.compact()
	}
	compareStores(t, s, spec)
	return spec
}

// goesOn checks that the store of a disk can be used after crashes.
func goesOn(t *testing.T, d *ingest.Disk, spec specStore) {
	t.Helper()
	s := open(t, d)
	last := batch("last", 2, "1 0: 9; 2 1: 9")
	put(t, s, last, true, api.OK)
	spec, _ = spec.after(last)
	compareStores(t, s, spec)
	s = open(t, d)
	compareStores(t, s, spec)
	expectErrno(t, "Compact", s.Compact(), api.OK)
	compareStores(t, open(t, d), spec.compact())
}

// fixed returns a disk with a store that was compacted if told so, and the store as the chapter's words say it.
func fixed(t *testing.T, compacted bool) (*ingest.Disk, specStore) {
	t.Helper()
	d := newDisk(110)
	spec := specStore{room: 54, beginning: base("0 0: 1\n1 1: 2\n"), compacted: -1}
	s := format(t, d, spec.beginning)
	for _, b := range []ingest.Batch{batch("a", 1, "0 0: 5; 2 0: 5"), batch("b", 2, "1 1:")} {
		put(t, s, b, true, api.OK)
		spec, _ = spec.after(b)
	}
	if compacted {
		expectErrno(t, "Compact", s.Compact(), api.OK)
		spec = spec.compact()
	}
	return d, spec
}

// TestEachTear: the power fails in each operation of a batch and of a compaction, and tears the sectors at each byte.
func TestEachTear(t *testing.T) {
	b := batch("c", 3, "3 1: 7; 0 0:")
	for _, compacted := range []bool{false, true} {
		original, before := fixed(t, compacted)
		for p := range 256 {
			picks := []byte{byte(p)}
			for n := 0; ; n++ {
				d := original.Copy()
				if !crash(t, d, n, picks, putting(t, b)) {
					break
				}
				goesOn(t, d, expectPrefix(t, d, before, b))
			}
			for n := p % 8; ; n += 8 { // a compaction has many operations
				d := original.Copy()
				if !crash(t, d, n, picks, (*ingest.Store).Compact) {
					break
				}
				goesOn(t, d, expectPrefix(t, d, before))
			}
		}
	}
}

// TestLastOperations: the last four operations of a compaction, with each pick.
func TestLastOperations(t *testing.T) {
	for _, compacted := range []bool{false, true} {
		original, before := fixed(t, compacted)
		n := operations(t, original, (*ingest.Store).Compact)
		for p := range 256 {
			for k := n - 4; k < n; k++ {
				d := original.Copy()
				if !crash(t, d, k, []byte{byte(p)}, (*ingest.Store).Compact) {
					t.Fatal("no crash in operation", k)
				}
				goesOn(t, d, expectPrefix(t, d, before))
			}
		}
	}
}

// operations returns how many operations a call has.
func operations(t *testing.T, d *ingest.Disk, c call) int {
	t.Helper()
	d = d.Copy()
	s := open(t, d)
	w, n := d.Counts()
	expectErrno(t, "a call", c(s), api.OK)
	w2, n2 := d.Counts()
	return w2 - w + n2 - n
}

// TestCrashesOfOpen: the power fails again and again while the store is opened after a crash of a batch. What was committed once remains, and nothing comes later.
func TestCrashesOfOpen(t *testing.T) {
	b := batch("c", 3, "3 1: 7; 0 0:; 2 1: 6")
	crashes := 0
	for _, picks := range somePicks() {
		for _, later := range somePicks() {
			for n := 0; ; n++ {
				d, spec := fixed(t, n%2 == 0)
				if !crash(t, d, n, picks, putting(t, b)) {
					break
				}
				spec = expectPrefix(t, d.Copy(), spec, b)
				for k := range 20 {
					if openWithFuse(t, d, k/2, later) {
						crashes++
					}
					expectPrefix(t, d.Copy(), spec)
				}
				goesOn(t, d, spec)
			}
		}
	}
	if crashes < 100 {
		t.Error("only", crashes, "crashes of Open")
	}
}

// openWithFuse opens a store with a fuse, restarts the disk, and reports whether the power failed.
func openWithFuse(t *testing.T, d *ingest.Disk, n int, picks []byte) bool {
	t.Helper()
	d.Fuse(n, picks)
	s, e := ingest.Open(d)
	failed := d.Down()
	if failed != (e == api.ErrDown) || failed != (s == nil) || !failed && e != api.OK {
		t.Fatal("Open", s, e)
	}
	d.Restart()
	return failed
}

// tears returns picks that tear a sector near its ends, and in the middle.
func tears() []byte {
	var out []byte
	for _, m := range []byte{0, 1, 2, 7, 8, 9, 32, 55, 56, 57, 62, 63, 64} {
		out = append(out, m, 130+m)
	}
	return out
}

// TestTornTwice: two calls, one after the other, are torn in the sector that makes them valid, in all pairs of ways.
func TestTornTwice(t *testing.T) {
	first, second := batch("c", 3, "3 1: 7"), batch("d", 3, "3 1: 8")
	for _, p := range tears() {
		for _, q := range tears() {
			d, spec := fixed(t, p%2 == 0)
			c := d.Copy()
			spec = tearLast(t, d, spec, p, putting(t, first), first)
			spec = tearLast(t, d, spec, q, putting(t, second), second)
			goesOn(t, d, spec)

			_, spec = fixed(t, p%2 == 0)
			spec = tearLast(t, c, spec, p, (*ingest.Store).Compact)
			put(t, open(t, c), first, true, api.OK)
			spec, _ = spec.after(first)
			spec = tearLast(t, c, spec, q, (*ingest.Store).Compact)
			goesOn(t, c, spec)
		}
	}
}

// tearLast lets the power fail in the last write of a call, which is followed by a sync, with a pick, and returns what the store is then.
func tearLast(t *testing.T, d *ingest.Disk, spec specStore, pick byte, c call, more ...ingest.Batch) specStore {
	t.Helper()
	if !crash(t, d, operations(t, d, c)-2, []byte{pick}, c) {
		t.Fatal("no crash in the last write")
	}
	return expectPrefix(t, d, spec, more...)
}

// TestRandomCrashes: long histories of batches, compactions and openings, in any of which the power can fail.
func TestRandomCrashes(t *testing.T) {
	d := dice(3)
	for range 400 {
		db := d.db()
		disk := newDisk(d.from(64, 300))
		spec := specStore{room: (disk.Sectors() - 2) / 2, beginning: db, compacted: -1}
		if spec.left() < 0 {
			continue
		}
		format(t, disk, db)
		for range 30 {
			n, picks, b := pick(&d, d.from(0, 9), d.from(0, disk.Sectors())), d.picks(), d.batch(db)
			after, hasRoom := spec.after(b)
			switch k := d.next() % 5; {
			case k == 0:
				if crash(t, disk, n, picks, (*ingest.Store).Compact) {
					spec = expectPrefix(t, disk, spec)
				} else {
					spec = spec.compact()
				}
			case k == 1:
				openWithFuse(t, disk, d.from(0, 3), picks)
			case spec.has(b.Token) || !hasRoom:
			case crash(t, disk, n, picks, putting(t, b)):
				for range d.from(0, 3) {
					openWithFuse(t, disk, d.from(0, 9), d.picks())
				}
				spec = expectPrefix(t, disk, spec, b)
			default:
				spec = after
			}
			compareStores(t, open(t, disk), spec)
		}
	}
}
