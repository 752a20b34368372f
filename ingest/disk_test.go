package ingest_test

import (
	"slices"
	"testing"

	"tesseract/api"
	"tesseract/ingest"
)

// P10.1

func TestNewDisk(t *testing.T) {
	for _, n := range list(63, 2049, 0, -1, -1<<63, 1<<63-1) {
		if d, e := ingest.NewDisk(n); d != nil || e != api.ErrRange {
			t.Error(n, d, e)
		}
	}
	for _, n := range list(ingest.MinSectors, 65, ingest.MaxSectors) {
		d := newDisk(n)
		if w, s := d.Counts(); d.Sectors() != n || w != 0 || s != 0 || d.Down() {
			t.Error(n, d.Sectors(), w, s)
		}
		for i := range n {
			expectSector(t, d, i, 64, 0)
		}
	}
}

func TestCounts(t *testing.T) {
	d := newDisk(64)
	expect := func(writes, syncs int) {
		t.Helper()
		if w, s := d.Counts(); w != writes || s != syncs {
			t.Error("Counts:", w, s, "not", writes, syncs)
		}
	}
	d.Write(0, fill(1))
	d.Sync()
	d.Sync()
	expect(1, 2)
	d.Write(64, fill(1)) // these do not count
	d.Write(0, nil)
	d.Read(0)
	expect(1, 2)
	d.Fuse(1, nil)
	d.Write(-1, fill(1))
	d.Write(1, fill(1))
	expectErrno(t, "a sync in which the power fails", d.Sync(), api.ErrDown)
	expect(2, 3)
	d.Write(1, fill(1))
	d.Sync()
	d.Crash(nil)
	expect(2, 3)
	d.Restart()
	expect(2, 3)
	d.Fuse(0, nil)
	expectErrno(t, "a write in which the power fails", d.Write(1, fill(1)), api.ErrDown)
	expect(3, 3)
}

func TestCopyOfDisk(t *testing.T) {
	d := newDisk(64)
	d.Write(1, fill(1))
	d.Sync()
	d.Write(1, fill(2))
	d.Write(2, fill(3))
	d.Fuse(1, []byte{0, 64})
	c := d.Copy()
	expectSector(t, c, 1, 64, 2)
	d.Write(1, fill(4))
	d.Write(3, fill(5)) // the power fails
	if c.Down() || !d.Down() || !d.Copy().Down() {
		t.Error("Down")
	}
	d.Restart()
	expectSector(t, d, 1, 64, 1)
	expectSector(t, d, 2, 64, 3)
	expectSector(t, d, 3, 64, 5)
	expectErrno(t, "the copy has the fuse", c.Sync(), api.OK)
	expectErrno(t, "the copy has the fuse", c.Write(1, fill(6)), api.ErrDown)
	c.Restart()
	expectSector(t, c, 1, 64, 2)
	expectSector(t, c, 2, 64, 3)
	expectSector(t, c, 3, 64, 0)
	if w, s := c.Counts(); w != 4 || s != 2 {
		t.Error("Counts of the copy:", w, s)
	}
	if w, s := d.Counts(); w != 5 || s != 1 {
		t.Error("Counts:", w, s)
	}
}

func TestStoreOfCopiedDisk(t *testing.T) {
	d := newDisk(64)
	s := format(t, d, base(""))
	put(t, s, batch("a", 1, "0 0: 1"), true, api.OK)
	c := d.Copy()
	o := open(t, c)
	put(t, s, batch("b", 1, "0 0: 2"), true, api.OK) // the store of the original can still be used
	put(t, o, batch("c", 1, "0 0: 3"), true, api.OK)
	expectTokens(t, s, "a", "b")
	expectTokens(t, o, "a", "c")
	c.Crash(nil)
	expectDown(t, o)
	expectDB(t, s, base("0 0: 2\n"))
	expectTokens(t, open(t, d), "a", "b")
}

// P10.2

func TestReadAndWrite(t *testing.T) {
	d := newDisk(64)
	for _, i := range list(-1, 64, -1<<63, 1<<63-1) {
		b, e := d.Read(i)
		if len(b) != 0 || e != api.ErrRange {
			t.Error(i, b, e)
		}
		expectErrno(t, i, d.Write(i, nil), api.ErrRange)
		expectErrno(t, i, d.Write(i, fill(1)), api.ErrRange)
	}
	for _, n := range list(0, 1, 63, 65) {
		expectErrno(t, n, d.Write(0, make([]byte, n)), api.ErrArg)
	}
	for _, i := range list(0, 5, 63) {
		expectErrno(t, i, d.Write(i, fill(byte(i+1))), api.OK)
		expectErrno(t, i, d.Write(i, fill(byte(i+2))), api.OK)
		expectSector(t, d, i, 64, i+2)
	}
	expectErrno(t, "Sync", d.Sync(), api.OK)
	expectSector(t, d, 5, 64, 7)
	d.Crash(slices.Repeat([]byte{64}, 256))
	if b, e := d.Read(5); len(b) != 0 || e != api.ErrDown {
		t.Error("Read with the power off:", b, e)
	}
	if _, e := d.Read(64); e != api.ErrRange {
		t.Error("Read of no sector with the power off:", e)
	}
	expectErrno(t, "with the power off", d.Write(64, nil), api.ErrRange)
	expectErrno(t, "with the power off", d.Write(5, nil), api.ErrArg)
	expectErrno(t, "with the power off", d.Write(5, fill(1)), api.ErrDown)
	expectErrno(t, "with the power off", d.Sync(), api.ErrDown)
	d.Restart()
	expectSector(t, d, 5, 64, 7)
}

// P10.3

func TestFuseErrors(t *testing.T) {
	d := newDisk(64)
	long := make([]byte, ingest.MaxPicks+1)
	expectErrno(t, "Fuse", d.Fuse(-1, long), api.ErrRange)
	expectErrno(t, "Fuse", d.Fuse(0, long), api.ErrLong)
	expectErrno(t, "Crash", d.Crash(long), api.ErrLong)
	expectErrno(t, "Sync", d.Sync(), api.OK)
	expectErrno(t, "Fuse", d.Fuse(0, long[1:]), api.OK)
	expectErrno(t, "Fuse", d.Fuse(-1, nil), api.ErrRange) // and the fuse that was set before stays
	expectErrno(t, "Sync", d.Sync(), api.ErrDown)
	expectErrno(t, "Fuse", d.Fuse(-1, nil), api.ErrRange)
	expectErrno(t, "Fuse", d.Fuse(0, long), api.ErrLong)
	expectErrno(t, "Fuse", d.Fuse(0, nil), api.ErrDown)
	expectErrno(t, "Crash", d.Crash(long), api.ErrLong)
	expectErrno(t, "Crash", d.Crash(nil), api.ErrDown)
	expectErrno(t, "Restart", d.Restart(), api.OK)
	expectErrno(t, "Restart", d.Restart(), api.OK)
}

func TestFuse(t *testing.T) {
	for n := range 6 {
		d := newDisk(64)
		d.Fuse(0, nil)
		d.Fuse(n, nil) // the first fuse is forgotten
		for k := range n + 1 {
			e := api.OK
			if k == n {
				e = api.ErrDown
			}
			if k%2 == 0 {
				expectErrno(t, k, d.Write(k, fill(1)), e)
			} else {
				expectErrno(t, k, d.Sync(), e)
			}
			if d.Down() != (k == n) {
				t.Error(n, k, d.Down())
			}
		}
	}
	d := newDisk(64)
	d.Fuse(0, nil)
	d.Restart() // also with the power on
	expectErrno(t, "without a fuse", d.Write(0, fill(1)), api.OK)
	d.Fuse(0, nil)
	d.Crash([]byte{2})
	d.Restart()
	expectSector(t, d, 0, 2, 1, 62, 0)
	expectErrno(t, "without a fuse", d.Write(0, fill(1)), api.OK)
	d.Fuse(1<<63-1, nil)
	expectErrno(t, "with a long fuse", d.Write(0, fill(1)), api.OK)
}

func TestPicks(t *testing.T) {
	for p := range 256 {
		d := newDisk(64)
		d.Write(1, fill(1))
		d.Sync()
		d.Write(1, fill(2))
		d.Crash([]byte{byte(p)})
		d.Restart()
		if m := p % 65; p < 128 {
			expectSector(t, d, 1, m, 2, 64-m, 1)
		} else {
			expectSector(t, d, 1, 64-m, 1, m, 2)
		}
	}
	d := newDisk(64)
	d.Write(1, fill(1))
	d.Write(2, fill(2))
	d.Fuse(0, []byte{3, 131})
	d.Write(1, fill(3))
	d.Restart()
	expectSector(t, d, 1, 3, 3, 61, 0)
	expectSector(t, d, 2, 63, 0, 1, 2)
	expectErrno(t, "Sync", d.Sync(), api.OK)
	expectSector(t, d, 1, 3, 3, 61, 0)
}

func TestDiskExamples(t *testing.T) {
	d := newDisk(64)
	expectErrno(t, "Write", d.Write(3, fill(7)), api.OK)
	expectErrno(t, "Crash", d.Crash([]byte{200}), api.OK)
	d.Restart()
	expectSector(t, d, 3, 59, 0, 5, 7)
	expectErrno(t, "Fuse", d.Fuse(1, []byte{10, 64}), api.OK)
	expectErrno(t, "Write", d.Write(3, fill(8)), api.OK)
	expectErrno(t, "Write", d.Write(4, fill(9)), api.ErrDown)
	d.Restart()
	expectSector(t, d, 3, 10, 8, 49, 0, 5, 7)
	expectSector(t, d, 4, 64, 9)
}

// TestDisksAsSaid compares disks, and copies of them, with those of the chapter's words.
func TestDisksAsSaid(t *testing.T) {
	d := dice(1)
	for range 300 {
		disks, specs := []*ingest.Disk{newDisk(64)}, []*specDisk{{sectors: 64, durable: map[int][]byte{}, fuse: -1}}
		for range 60 {
			k := d.from(0, len(disks)-1)
			d.operate(t, disks[k], specs[k])
			if d.next()%20 == 0 {
				disks, specs = append(disks, disks[k].Copy()), append(specs, specs[k].copied())
			}
			for k := range disks {
				compareDisks(t, disks[k], specs[k])
			}
		}
	}
}

// operate does the same with both disks.
func (d *dice) operate(t *testing.T, x *ingest.Disk, spec *specDisk) {
	t.Helper()
	i, b, picks := pick(d, -1, 0, 1, 1, 2, 63, 64), d.bytes(pick(d, 64, 64, 64, 63)), d.picks()
	switch d.next() % 12 {
	case 0:
		picks = pick(d, picks, make([]byte, 257))
		expectErrno(t, "Crash", x.Crash(picks), spec.crash(picks))
	case 1, 2:
		expectErrno(t, "Sync", x.Sync(), spec.sync())
	case 3, 4:
		n := d.from(-1, 5)
		expectErrno(t, "Fuse", x.Fuse(n, picks), spec.setFuse(n, picks))
	case 5, 6:
		spec.off, spec.fuse = false, -1
		expectErrno(t, "Restart", x.Restart(), api.OK)
	default:
		expectErrno(t, "Write", x.Write(i, b), spec.write(i, b))
	}
}

func compareDisks(t *testing.T, x *ingest.Disk, spec *specDisk) {
	t.Helper()
	w, s := x.Counts()
	if w != spec.writes || s != spec.syncs || x.Down() != spec.off || x.Sectors() != spec.sectors {
		t.Fatal("Counts", w, s, "Down", x.Down())
	}
	for _, i := range list(-1, 0, 1, 2, 3, 63, 64) {
		b, e := x.Read(i)
		if want, f := spec.read(i); e != f || !slices.Equal(b, want) {
			t.Fatal("Read", i, b, e, "not", want, f)
		}
	}
}
