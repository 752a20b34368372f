package chunk_test

import (
	"bytes"
	"slices"
	"testing"

	"tesseract/api"
	"tesseract/chunk"
)

// P3.1

func TestSum(t *testing.T) {
	for _, x := range []struct {
		s    string
		want uint32
	}{{"", 0}, {"123456789", 3808858755}, {"a", 3251651376}, {"\x00", 1383945041}, {string(make([]byte, 32)), 2324772522}, {string(bytes.Repeat([]byte{255}, 32)), 1655221059}} {
		if n := chunk.Sum([]byte(x.s)); n != x.want {
			t.Errorf("%q: %d", x.s, n)
		}
	}
	d := dice(1)
	for n := range 300 {
		b := d.bytes(n, 256)
		before := bytes.Clone(b)
		if chunk.Sum(b) != specSum(b) || !bytes.Equal(b, before) {
			t.Fatal(b)
		}
	}
	for c := range 256 {
		if b := []byte{byte(c)}; chunk.Sum(b) != specSum(b) {
			t.Error(c)
		}
	}
	b := roomy([]byte("123456789"), 7)
	if chunk.Sum(b) != 3808858755 {
		t.Error("bytes behind the end count")
	}
}

// P3.2

// zeros returns n zeros.
func zeros(n int) []byte { return make([]byte, n) }

// strange returns n bytes, from a number on, none of which are repeated.
func strange(n, from int) []byte {
	b := make([]byte, n)
	for k := range b {
		b[k] = byte(k + from)
	}
	return b
}

func TestPackExamples(t *testing.T) {
	for k, x := range []struct {
		codec   int
		b, want []byte
	}{
		{api.Plain, nil, nil}, {api.Rle, nil, nil}, {api.Lz, nil, nil},
		{api.Plain, []byte("aaaaaaaa"), []byte("aaaaaaaa")},
		{api.Rle, []byte("aaaab"), []byte{129, 97, 0, 98}},
		{api.Rle, []byte("aab"), []byte{2, 97, 97, 98}},
		{api.Rle, []byte("aaa"), []byte{128, 97}},
		{api.Rle, []byte("baaa"), []byte{0, 98, 128, 97}},
		{api.Rle, []byte("aaabbb"), []byte{128, 97, 128, 98}},
		{api.Rle, zeros(130), []byte{255, 0}},
		{api.Rle, zeros(132), []byte{255, 0, 1, 0, 0}},
		{api.Rle, zeros(133), []byte{255, 0, 128, 0}},
		{api.Rle, zeros(261), []byte{255, 0, 255, 0, 0, 0}},
		{api.Rle, strange(128, 0), append([]byte{127}, strange(128, 0)...)},
		{api.Rle, strange(129, 0), slices.Concat([]byte{127}, strange(128, 0), []byte{0, 128})},
		{api.Rle, append(strange(128, 0), 9, 9, 9), slices.Concat([]byte{127}, strange(128, 0), []byte{128, 9})},
		{api.Rle, append(strange(127, 0), 9, 9, 9), slices.Concat([]byte{126}, strange(127, 0), []byte{128, 9})},
		{api.Lz, []byte("abcdabcdabcd"), []byte{3, 97, 98, 99, 100, 132, 0, 4}},
		{api.Lz, []byte("aaaaaa"), []byte{0, 97, 129, 0, 1}},
		{api.Lz, []byte("aaaa"), []byte{3, 97, 97, 97, 97}},
		{api.Lz, []byte("aaaaa"), []byte{0, 97, 128, 0, 1}},
		{api.Lz, []byte("abcabc"), []byte{5, 97, 98, 99, 97, 98, 99}},
		{api.Lz, []byte("abcdxabcd"), []byte{4, 97, 98, 99, 100, 120, 128, 0, 5}},
		{api.Lz, []byte("abcdxabcdyabcd"), []byte{4, 97, 98, 99, 100, 120, 128, 0, 5, 0, 121, 128, 0, 5}},         // the less distance
		{api.Lz, []byte("abcdexabcdyabcde"), []byte{5, 97, 98, 99, 100, 101, 120, 128, 0, 6, 0, 121, 129, 0, 11}}, // the greater length
		{api.Lz, []byte("xbcdexabcdeabcd"), []byte{6, 120, 98, 99, 100, 101, 120, 97, 128, 0, 6, 128, 0, 5}},
		{api.Lz, zeros(132), []byte{0, 0, 255, 0, 1}},
		{api.Lz, zeros(133), []byte{0, 0, 255, 0, 1, 0, 0}},
		{api.Lz, zeros(136), []byte{0, 0, 255, 0, 1, 128, 0, 1}},
		{api.Lz, append(strange(256, 0), strange(256, 0)...), slices.Concat([]byte{127}, strange(128, 0), []byte{127}, strange(128, 128), []byte{255, 1, 0, 249, 1, 0})},
	} {
		b := roomy(x.b, 99)
		p, e := chunk.Pack(x.codec, b)
		if e != api.OK || !bytes.Equal(p, x.want) {
			t.Error(k, p, e)
		}
		spoil(p, 77)
		if !bytes.Equal(b, x.b) || b[:cap(b)][len(b)] != 99 {
			t.Error(k, "Pack shares memory with its argument, or changes it")
		}
		packed := roomy(x.want, 99)
		u, e := chunk.Unpack(x.codec, packed)
		if e != api.OK || !bytes.Equal(u, x.b) {
			t.Error(k, u, e)
		}
		spoil(u, 77)
		if !bytes.Equal(packed, x.want) || packed[:cap(packed)][len(packed)] != 99 {
			t.Error(k, "Unpack shares memory with its argument, or changes it")
		}
	}
}

// TestFarCopies has matches at the greatest distance, and one further away.
func TestFarCopies(t *testing.T) {
	for gap := 1015; gap <= 1025; gap++ {
		b := slices.Concat([]byte("wxyz"), zeros(gap), []byte("wxyz"))
		p, e := chunk.Pack(api.Lz, b)
		last := []byte{3, 'w', 'x', 'y', 'z'}
		if d := gap + 4; d <= 1024 {
			last = []byte{128, byte(d >> 8), byte(d)}
		}
		if e != api.OK || !bytes.HasSuffix(p, last) || !bytes.Equal(p, specPack(api.Lz, b)) {
			t.Error(gap, p, e)
		}
		if u, e := chunk.Unpack(api.Lz, p); e != api.OK || !bytes.Equal(u, b) {
			t.Error(gap, e)
		}
	}
}

func TestNoCodec(t *testing.T) {
	for _, codec := range append(slices.Clone(farNumbers), 0, 4) {
		for _, b := range [][]byte{nil, {0}, zeros(chunk.MaxBytes + 1), zeros(chunk.MaxBytes + 1<<13 + 1)} {
			if p, e := chunk.Pack(codec, b); e != api.ErrArg || len(p) > 0 {
				t.Error(codec, len(p), e)
			}
			if u, e := chunk.Unpack(codec, b); e != api.ErrArg || len(u) > 0 {
				t.Error(codec, len(u), e)
			}
		}
	}
}

// repeated returns some bytes n times.
func repeated(n int, b ...byte) []byte { return bytes.Repeat(b, n) }

func TestUnpackRefuses(t *testing.T) {
	long := repeated(8065, 255, 0)                                         // 1,048,450 bytes
	far := slices.Concat([]byte{0, 0}, repeated(8004, 255, 0, 1))          // 1,048,525 bytes
	wide := slices.Concat([]byte{127}, strange(128, 0), []byte{255, 0, 1}) // and 131 more
	for k, x := range []struct {
		codec int
		b     []byte
		want  api.Errno
	}{
		{api.Rle, []byte{0}, api.ErrTorn}, {api.Rle, []byte{1, 97}, api.ErrTorn}, {api.Rle, []byte{128}, api.ErrTorn}, {api.Rle, []byte{255}, api.ErrTorn}, {api.Rle, append([]byte{127}, zeros(127)...), api.ErrTorn},
		{api.Rle, []byte{0, 97, 0}, api.ErrTorn}, {api.Rle, []byte{128, 97, 0}, api.ErrTorn}, {api.Rle, []byte{0, 97, 0, 98, 128}, api.ErrTorn},
		{api.Rle, []byte{0, 97, 0, 98}, api.ErrForm}, {api.Rle, []byte{2, 97, 97, 97}, api.ErrForm}, {api.Rle, []byte{3, 97, 97, 97, 98}, api.ErrForm},
		{api.Rle, []byte{128, 97, 128, 97}, api.ErrForm}, {api.Rle, []byte{128, 97, 0, 97}, api.ErrForm}, {api.Rle, []byte{0, 97, 128, 97}, api.ErrForm}, {api.Rle, []byte{254, 0, 0, 0}, api.ErrForm},
		{api.Lz, []byte{0}, api.ErrTorn}, {api.Lz, []byte{128}, api.ErrTorn}, {api.Lz, []byte{128, 0}, api.ErrTorn}, {api.Lz, []byte{128, 255}, api.ErrTorn}, {api.Lz, []byte{0, 97, 128, 0}, api.ErrTorn}, {api.Lz, []byte{0, 97, 128, 0, 1, 1, 98}, api.ErrTorn},
		{api.Lz, []byte{132, 0, 1}, api.ErrForm}, {api.Lz, []byte{0, 97, 128, 0, 0}, api.ErrForm}, {api.Lz, []byte{0, 97, 128, 0, 2}, api.ErrForm}, {api.Lz, []byte{0, 97, 128, 0, 0, 0}, api.ErrForm},
		{api.Lz, slices.Concat(wide, repeated(7, 255, 0, 131), []byte{128, 4, 1}), api.ErrForm}, {api.Lz, slices.Concat(wide, repeated(7, 255, 0, 131), []byte{128, 255, 255, 0}), api.ErrForm}, {api.Lz, slices.Concat(wide, repeated(7, 255, 0, 131), []byte{128, 4, 1, 0}), api.ErrForm},
		{api.Lz, []byte{4, 97, 97, 97, 97, 97}, api.ErrForm}, {api.Lz, []byte{0, 97, 128, 0, 1, 128, 0, 1}, api.ErrForm}, {api.Lz, []byte{3, 97, 98, 97, 98, 128, 0, 4}, api.ErrForm}, {api.Lz, []byte{7, 97, 98, 99, 100, 97, 98, 99, 100, 128, 0, 8}, api.ErrForm}, {api.Lz, []byte{0, 97, 0, 98}, api.ErrForm},
		{api.Plain, zeros(chunk.MaxBytes + 1), api.ErrLong}, {api.Plain, zeros(chunk.MaxBytes + 1<<13), api.ErrLong}, {api.Plain, zeros(chunk.MaxBytes + 1<<13 + 1), api.ErrLong},
		{api.Rle, zeros(chunk.MaxBytes + 1<<13 + 1), api.ErrLong}, {api.Lz, zeros(chunk.MaxBytes + 1<<13 + 1), api.ErrLong}, {api.Lz, repeated(chunk.MaxBytes+1<<13+1, 128), api.ErrLong},
		{api.Rle, zeros(chunk.MaxBytes + 1<<13), api.ErrForm}, {api.Lz, zeros(chunk.MaxBytes + 1<<13), api.ErrForm}, {api.Lz, repeated(chunk.MaxBytes+1<<13, 128), api.ErrForm},
		{api.Rle, append(slices.Clone(long), 251, 0), api.OK}, {api.Rle, append(slices.Clone(long), 252, 0), api.ErrLong}, {api.Rle, append(slices.Clone(long), 252), api.ErrTorn}, {api.Rle, append(slices.Clone(long), 252, 0, 9), api.ErrLong},
		{api.Rle, append(slices.Clone(long), 251, 0, 0), api.ErrTorn}, {api.Rle, append(slices.Clone(long), 251, 0, 0, 1), api.ErrLong}, {api.Rle, slices.Concat(long, []byte{125}, zeros(126)), api.ErrForm}, {api.Rle, slices.Concat(long, []byte{126}, zeros(127)), api.ErrLong},
		{api.Lz, append(slices.Clone(far), 175, 0, 1), api.OK}, {api.Lz, append(slices.Clone(far), 176, 0, 1), api.ErrLong}, {api.Lz, append(slices.Clone(far), 176, 0, 0), api.ErrForm}, {api.Lz, append(slices.Clone(far), 176, 0), api.ErrTorn}, {api.Lz, append(slices.Clone(far), 176, 0, 1, 0), api.ErrLong},
	} {
		u, e := chunk.Unpack(x.codec, x.b)
		if e != x.want || e != api.OK && len(u) > 0 || e == api.OK && !bytes.Equal(u, zeros(chunk.MaxBytes)) {
			t.Errorf("%d: %d bytes, %d, not %d", k, len(u), e, x.want)
		}
	}
}

// TestUnpackAny compares what is unpacked from changed packed bytes with what the chapter's steps give.
func TestUnpackAny(t *testing.T) {
	d := dice(5)
	met := map[api.Errno]int{}
	for range 30000 {
		codec := d.from(api.Rle, api.Lz)
		b := d.bytes(d.from(0, 12), 2)
		if d.next()%4 == 0 {
			b = d.bytes(d.from(0, 200), 3)
		}
		p := specPack(codec, b)
		for range d.from(0, 2) {
			if len(p) > 0 {
				k := d.from(0, len(p)-1)
				p = slices.Concat(p[:k], []byte{byte(d.from(0, 3)), byte(d.from(126, 131))}[:d.from(0, 2)], p[k+d.from(0, 1):])
			}
		}
		want, f := specUnpack(codec, p)
		u, e := chunk.Unpack(codec, p)
		if e != f || !bytes.Equal(u, want) {
			t.Fatal(codec, p, u, e, want, f)
		}
		met[e]++
	}
	if met[api.OK] < 5000 || met[api.ErrTorn] < 2000 || met[api.ErrForm] < 2000 {
		t.Error("too few:", met)
	}
}

// P3.7

// packs checks the packed bytes of b in all codecs.
func packs(t *testing.T, b []byte) {
	t.Helper()
	for codec := api.Plain; codec <= api.Lz; codec++ {
		p, e := chunk.Pack(codec, b)
		if e != api.OK || len(p) > len(b)+(len(b)+127)/128 {
			t.Fatalf("%d: %d bytes packed as %d, %d", codec, len(b), len(p), e)
		}
		if len(b) < 5000 && !bytes.Equal(p, specPack(codec, b)) {
			t.Fatal(codec, b, p)
		}
		if u, e := chunk.Unpack(codec, p); e != api.OK || !bytes.Equal(u, b) {
			t.Fatalf("%d: %d bytes, %d", codec, len(b), e)
		}
	}
}

func TestCodecs(t *testing.T) {
	d := dice(2)
	for n := range 400 {
		packs(t, d.bytes(n, 256))
		packs(t, d.bytes(n, 2))
		packs(t, zeros(n))
		packs(t, repeated(n, 1, 2))
	}
	for n := range 60 {
		part := d.bytes(d.from(1, 300), d.from(1, 256))
		b := slices.Concat(part, d.bytes(n*20, 3), part, zeros(n), part)
		packs(t, b)
	}
}

// TestAllShortBytes packs all bytes of a few values, all differently.
func TestAllShortBytes(t *testing.T) {
	for codec := api.Rle; codec <= api.Lz; codec++ {
		met := map[string]bool{}
		for n := range 10 {
			for x := range 1 << n {
				b := make([]byte, n)
				for k := range b {
					b[k] = byte(x >> k & 1)
				}
				p, e := chunk.Pack(codec, b)
				if e != api.OK || met[string(p)] || !bytes.Equal(p, specPack(codec, b)) {
					t.Fatal(codec, b, p, e)
				}
				met[string(p)] = true
			}
		}
	}
}

func TestPackAtLimit(t *testing.T) {
	d := dice(3)
	for _, b := range [][]byte{zeros(chunk.MaxBytes), d.bytes(chunk.MaxBytes, 256), d.bytes(chunk.MaxBytes, 2)} {
		packs(t, b)
	}
	p, e := chunk.Pack(api.Rle, repeated(chunk.MaxBytes/2, 1, 2))
	if e != api.OK || len(p) != chunk.MaxBytes+1<<13 {
		t.Error("the longest packed bytes:", len(p), e)
	}
	for codec := api.Plain; codec <= api.Lz; codec++ {
		if p, e := chunk.Pack(codec, zeros(chunk.MaxBytes+1)); e != api.ErrLong || len(p) > 0 {
			t.Error(codec, len(p), e)
		}
	}
}
