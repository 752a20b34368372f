package ingest_test

import (
	"slices"
	"testing"

	"tesseract/api"
	"tesseract/ingest"
)

// batches returns some batches without an error, with different tokens.
func (d *dice) batches(db api.DB, n int) []ingest.Batch {
	var out []ingest.Batch
	for range n {
		b := d.batch(db)
		if !slices.ContainsFunc(out, func(x ingest.Batch) bool { return x.Token == b.Token }) {
			out = append(out, b)
		}
	}
	return out
}

// shuffled returns the elements of a list in any order.
func shuffled[E any](d *dice, l []E) []E {
	l = slices.Clone(l)
	for k := range l {
		i := d.from(0, k)
		l[k], l[i] = l[i], l[k]
	}
	return l
}

// P10.9, P10.10

// TestOrder: whatever the order of some batches is, and whenever the store is compacted or opened, the database is the same. No batch is applied twice.
func TestOrder(t *testing.T) {
	d := dice(4)
	for range 60 {
		db := d.db()
		l := d.batches(db, 12)
		spec := specStore{beginning: db, batches: l, compacted: -1}
		for range 6 {
			disk := newDisk(ingest.MaxSectors)
			s := format(t, disk, db)
			order := shuffled(&d, l)
			for k, b := range order {
				put(t, s, b, true, api.OK)
				again := d.batch(db)
				again.Token = order[d.from(0, k)].Token
				put(t, s, again, false, api.OK)
				switch d.next() % 4 {
				case 0:
					expectErrno(t, "Compact", s.Compact(), api.OK)
				case 1:
					s = open(t, disk)
				}
			}
			for _, b := range shuffled(&d, l) {
				put(t, s, b, false, api.OK)
			}
			expectDB(t, s, spec.db())
			expectTokens(t, open(t, disk), specStore{batches: order}.tokens()...)
		}
	}
}

// TestOnceAfterCrash: a batch during whose Put the power failed is put again. It is there once then, whether it was committed before or not.
func TestOnceAfterCrash(t *testing.T) {
	b := batch("c", 3, "3 1: 7; 0 0:")
	olds := 0
	for _, picks := range somePicks() {
		for n := 0; ; n++ {
			d, spec := fixed(t, false)
			if !crash(t, d, n, picks, putting(t, b)) {
				break
			}
			s := open(t, d)
			if is, e := s.Put(b); e != api.OK {
				t.Error(n, picks, e)
			} else if !is {
				olds++
			}
			spec, _ = spec.after(b)
			compareStores(t, s, spec)
			compareStores(t, open(t, d), spec)
		}
	}
	if olds == 0 {
		t.Error("no batch was committed when the power failed")
	}
}

// P10.11

func TestCompactTwice(t *testing.T) {
	d := dice(5)
	for range 60 {
		db := d.db()
		disk := newDisk(d.from(600, ingest.MaxSectors))
		s := format(t, disk, db)
		for _, b := range d.batches(db, d.from(0, 8)) {
			put(t, s, b, true, api.OK)
		}
		before, _ := s.Room()
		want, _ := s.DB()
		tokens, _ := s.Tokens()
		expectErrno(t, "Compact", s.Compact(), api.OK)
		after, _ := s.Room()
		if after < before {
			t.Error("the use grew", before, after)
		}
		for k := range 4 {
			expectRoom(t, s, after)
			expectDB(t, s, want)
			expectTokens(t, s, tokens...)
			if k == 2 {
				s = open(t, disk)
			}
			expectErrno(t, "Compact", s.Compact(), api.OK)
		}
	}
}

// P0, R9

// TestManyCompactions: the numbers of logs become longer than a byte, and the power fails at each of them.
func TestManyCompactions(t *testing.T) {
	d, spec := fixed(t, true)
	for k := range 600 {
		pick := tears()[k%len(tears())]
		if k%3 == 0 || k > 250 && k < 262 || k > 506 && k < 518 {
			tearLast(t, d, spec, pick, (*ingest.Store).Compact)
		} else {
			expectErrno(t, "Compact", open(t, d).Compact(), api.OK)
		}
	}
	goesOn(t, d, spec)
}

// TestSameBytes: equal calls leave equal disks.
func TestSameBytes(t *testing.T) {
	d := dice(6)
	for range 20 {
		db := d.db()
		l := d.batches(db, 8)
		var disks []*ingest.Disk
		for range 3 {
			disk := newDisk(800)
			s := format(t, disk, db)
			for _, b := range l {
				put(t, s, b, true, api.OK)
			}
			expectErrno(t, "Compact", s.Compact(), api.OK)
			disks = append(disks, disk)
		}
		for i := range 800 {
			want, _ := disks[0].Read(i)
			for _, disk := range disks {
				if b, _ := disk.Read(i); !slices.Equal(b, want) {
					t.Fatal("sector", i)
				}
			}
		}
	}
}

// TestSpoiledDisks: whatever is written on the disk of a store, nothing panics, and databases are valid.
func TestSpoiledDisks(t *testing.T) {
	d := dice(7)
	refused := 0
	for range 4000 {
		disk, _ := fixed(t, d.next()%2 == 0)
		old := open(t, disk)
		for range d.from(1, 3) {
			d.spoil(disk)
		}
		s, e := ingest.Open(disk)
		if e == api.OK {
			old = s
		} else {
			refused++
		}
		for range 2 {
			old.Put(batch("x", 1, "0 0: 1"))
			if db, e := old.DB(); e == api.OK {
				for _, x := range db {
					if len(x.Array.Dims) == 0 {
						t.Fatal("an array that is not valid")
					}
				}
			}
			old.Compact()
			ingest.Open(disk)
		}
		db := base("3 1: 1\n")
		format(t, disk, db)
		expectDB(t, open(t, disk), db)
	}
	if refused < 1000 {
		t.Error("only", refused, "disks were refused")
	}
}

// spoil writes on the disk of a store: a few bytes of a sector, or another sector.
func (d *dice) spoil(disk *ingest.Disk) {
	i := pick(d, d.from(0, 40), d.from(0, disk.Sectors()-1))
	b, _ := disk.Read(i)
	switch d.next() % 4 {
	case 0:
		b, _ = disk.Read(d.from(0, disk.Sectors()-1))
	case 1:
		b = d.bytes(len(b))
	default:
		for range d.from(1, 4) {
			k := pick(d, d.from(0, 30), d.from(0, 63))
			b[k] = pick(d, byte(d.next()), 0, 1, 255, b[k]+1, b[k]^128)
		}
	}
	disk.Write(i, b)
}
