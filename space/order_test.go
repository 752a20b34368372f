package space_test

import (
	"cmp"
	"slices"
	"testing"

	"tesseract/api"
	"tesseract/space"
)

// digits are the bits of a number, the lowest one first.
type digits []bool

// hilbertKey returns the digits of the key of offsets, the highest one first, by the steps of the document.
func hilbertKey(offsets, extents []int) []bool {
	k := 0
	for _, x := range extents {
		for 1<<k < x {
			k++
		}
	}
	y := make([]digits, len(offsets))
	for i, x := range offsets {
		for q := range k {
			y[i] = append(y[i], x>>q%2 == 1)
		}
	}
	n := len(y)
	for q := k - 1; q >= 1; q-- {
		for i := range n {
			if y[i][q] {
				for low := range q {
					y[0][low] = !y[0][low]
				}
			} else {
				for low := range q {
					y[0][low], y[i][low] = y[i][low], y[0][low]
				}
			}
		}
	}
	for i := 1; i < n; i++ {
		for q := range k {
			y[i][q] = y[i][q] != y[i-1][q]
		}
	}
	t := make(digits, k)
	for q := k - 1; q >= 1; q-- {
		for low := 0; y[n-1][q] && low < q; low++ {
			t[low] = !t[low]
		}
	}
	var key []bool
	for q := k - 1; q >= 0; q-- {
		for i := range n {
			key = append(key, y[i][q] != t[q])
		}
	}
	return key
}

// compareBits compares two lists of bits of the same length.
func compareBits(a, b []bool) int {
	for k := range a {
		if a[k] != b[k] {
			if b[k] {
				return -1
			}
			return 1
		}
	}
	return 0
}

// arranged returns the coordinates of a box in an order, found by comparing each two of them.
func arranged(l api.Layout, b api.Box) [][]int {
	extents := make([]int, len(b.Lo))
	for k := range b.Lo {
		extents[k] = b.Hi[k] - b.Lo[k] + 1
	}
	offsets := func(at []int, by int) []int {
		out := make([]int, len(at))
		for k, x := range at {
			out[k] = (x - b.Lo[k]) / by
		}
		return out
	}
	out := within(b)
	slices.SortFunc(out, func(p, q []int) int {
		switch l.Order {
		case api.Tiled:
			return cmp.Or(slices.Compare(offsets(p, l.Tile), offsets(q, l.Tile)), slices.Compare(p, q))
		case api.Hilbert:
			return compareBits(hilbertKey(offsets(p, 1), extents), hilbertKey(offsets(q, 1), extents))
		}
		return slices.Compare(p, q)
	})
	return out
}

// orders returns one layout for each order, with several tiles.
func orders() []api.Layout {
	return []api.Layout{ordered(api.RowMajor, 0), ordered(api.Hilbert, 0), ordered(api.Tiled, 1), ordered(api.Tiled, 2), ordered(api.Tiled, 3), ordered(api.Tiled, 64)}
}

// P2.8

func TestOrderExamples(t *testing.T) {
	for k, x := range []struct {
		l    api.Layout
		hi   []int
		want [][]int
	}{
		{ordered(api.RowMajor, 0), list(1, 1), [][]int{{0, 0}, {0, 1}, {1, 0}, {1, 1}}},
		{ordered(api.Hilbert, 0), list(1, 1), [][]int{{0, 0}, {0, 1}, {1, 1}, {1, 0}}},
		{ordered(api.Hilbert, 0), list(2, 1), [][]int{{0, 0}, {1, 0}, {1, 1}, {0, 1}, {2, 1}, {2, 0}}},
		{ordered(api.Tiled, 2), list(2, 2), [][]int{{0, 0}, {0, 1}, {1, 0}, {1, 1}, {0, 2}, {1, 2}, {2, 0}, {2, 1}, {2, 2}}},
		{ordered(api.Hilbert, 0), list(0, 0, 0), [][]int{{0, 0, 0}}},
	} {
		b := box(make([]int, len(x.hi)), x.hi)
		if s, e := space.Seq(x.l, b); e != api.OK || !sameLists(s, x.want) {
			t.Error(k, s, e)
		}
	}
}

func TestSeq(t *testing.T) {
	d := dice(21)
	for k := range 300 {
		n := k%4 + 1
		extents := d.coords(n, 1, []int{90, 15, 6, 4}[n-1])
		lo := d.coords(n, -20, 20)
		if k%10 == 0 {
			lo = slices.Repeat(list(farNumbers[k/10%3]), n)
		}
		hi := slices.Clone(lo)
		for i := range hi {
			hi[i] += extents[i] - 1
		}
		for _, l := range orders() {
			s, e := space.Seq(l, box(lo, hi))
			if e != api.OK || !sameLists(s, arranged(l, box(lo, hi))) {
				t.Fatal(l, lo, hi, s, e)
			}
		}
	}
}

func TestSeqOfLargestBoxes(t *testing.T) {
	for _, hi := range [][]int{{4095}, {63, 63}, {0, 4095}, {4095, 0, 0, 0}, {0, 0, 0, 4095}, {15, 15, 15}, {7, 7, 7, 7}, {1, 2047}, {4, 4, 162}} {
		b := box(make([]int, len(hi)), hi)
		for _, l := range orders() {
			s, e := space.Seq(l, b)
			if e != api.OK || !sameLists(s, arranged(l, b)) {
				t.Error(l, hi, e)
			}
			for _, i := range []int{0, 1, len(s) / 2, len(s) - 1} {
				if r, e := space.Rank(l, b, s[i]); r != i || e != api.OK {
					t.Error(l, hi, i, r, e)
				}
			}
		}
	}
}

func TestOrderRefuses(t *testing.T) {
	row := api.Layout{Sides: list(0, 0, 0), Overlap: list(99), Order: api.RowMajor, Form: 9, Codec: -1} // nothing but order and tile matters
	good := box(list(0), list(3))
	for k, x := range []struct {
		l    api.Layout
		b    api.Box
		at   []int
		seq  api.Errno
		rank api.Errno
	}{
		{row, good, list(3), api.OK, api.OK}, {row, good, list(4), api.OK, api.ErrRange}, {row, good, list(-1), api.OK, api.ErrRange}, {row, good, list(farNumbers[0]), api.OK, api.ErrRange},
		{row, good, nil, api.OK, api.ErrShape}, {row, good, list(0, 0), api.OK, api.ErrShape},
		{api.Layout{}, api.Box{}, nil, api.ErrArg, api.ErrArg}, {ordered(4, 0), good, list(0), api.ErrArg, api.ErrArg}, {ordered(-1, 0), good, list(0), api.ErrArg, api.ErrArg},
		{ordered(api.RowMajor, 1), good, list(0), api.ErrArg, api.ErrArg}, {ordered(api.Hilbert, 1), good, list(0), api.ErrArg, api.ErrArg}, {ordered(api.Hilbert, -1), api.Box{}, list(0), api.ErrArg, api.ErrArg},
		{ordered(api.Tiled, 0), good, list(0), api.ErrArg, api.ErrArg}, {ordered(api.Tiled, -3), good, list(0), api.ErrArg, api.ErrArg}, {ordered(api.Tiled, 65), good, list(0), api.ErrArg, api.ErrArg}, {ordered(api.Tiled, 64), good, list(2), api.OK, api.OK},
		{row, box(list(0), list(api.Open)), list(0), api.ErrRange, api.ErrRange}, {row, box(list(0), list(farNumbers[5])), list(0), api.ErrRange, api.ErrRange}, {row, box(list(api.Open), list(api.Open)), list(api.Open), api.ErrRange, api.ErrRange},
		{row, box(list(most), list(most)), list(most), api.OK, api.OK}, {row, box(list(1), list(0)), list(0), api.ErrRange, api.ErrRange}, {row, box(list(farNumbers[5]), list(farNumbers[0])), list(0), api.ErrRange, api.ErrRange},
		{row, box(list(0, 1), list(9999, 0)), list(0, 0), api.ErrRange, api.ErrRange}, {row, box(list(0, 1), list(9999, 0)), list(0), api.ErrRange, api.ErrShape},
		{row, box(list(0), list(4096)), list(-1), api.ErrMany, api.ErrMany}, {row, box(list(farNumbers[0]), list(most)), list(0), api.ErrMany, api.ErrMany}, {row, box(list(farNumbers[0]), list(-1)), list(0), api.ErrMany, api.ErrMany},
		{row, box(list(0, 0), list(64, 63)), list(0, 0), api.ErrMany, api.ErrMany}, {row, box(list(0, 0, 0, 0), list(8, 7, 7, 7)), list(0, 0, 0, 0), api.ErrMany, api.ErrMany},
		{row, box(slices.Repeat(list(farNumbers[0]), 4), slices.Repeat(list(-1), 4)), list(0, 0, 0, 0), api.ErrMany, api.ErrMany},
		{row, box(slices.Repeat(list(0), 4), slices.Repeat(list(1<<16-1), 4)), list(0, 0, 0, 0), api.ErrMany, api.ErrMany},
		{row, box(list(farNumbers[0]), list(farNumbers[0]+4095)), list(farNumbers[0] + 7), api.OK, api.OK},
	} {
		if s, e := space.Seq(x.l, x.b); e != x.seq || e != api.OK && len(s) != 0 {
			t.Error(k, s, e)
		}
		if r, e := space.Rank(x.l, x.b, x.at); e != x.rank || e != api.OK && r != 0 {
			t.Error(k, r, e)
		}
	}
	for k, b := range formless() {
		s, e := space.Seq(row, b)
		r, f := space.Rank(row, b, make([]int, len(b.Lo)))
		if e != api.ErrShape || f != api.ErrShape || len(s) != 0 || r != 0 {
			t.Error(k, s, e, r, f)
		}
	}
}

func TestSeqMemory(t *testing.T) {
	b := box(spread(list(0, 0)), spread(list(2, 2)))
	for _, l := range orders() {
		s, _ := space.Seq(l, b)
		for k := range s {
			s[k] = append(s[k], 1)
		}
		spoilInts(s[4])
		want := arranged(l, b)
		for k := range s {
			if k != 4 && !slices.Equal(s[k][:2], want[k]) {
				t.Error("the lists of Seq share memory")
			}
		}
		if !sameBox(b, box(list(0, 0), list(2, 2))) {
			t.Error("Seq changed its argument")
		}
	}
}

// P2.11

func TestRankNumbersSeq(t *testing.T) {
	for _, hi := range [][]int{{0}, {6}, {9, 4}, {3, 0, 5}, {2, 3, 1, 4}, {20, 20}} {
		for _, l := range orders() {
			lo := make([]int, len(hi))
			for k := range lo {
				lo[k] = -k
			}
			b := box(lo, hi)
			s, e := space.Seq(l, b)
			if e != api.OK || len(s) != len(within(b)) {
				t.Fatal(hi, l, e)
			}
			for i, at := range s {
				if r, e := space.Rank(l, b, at); r != i || e != api.OK {
					t.Fatal(hi, l, at, r, e)
				}
			}
		}
	}
}

// P2.12

func TestHilbertNeighbors(t *testing.T) {
	for n := 1; n <= 4; n++ {
		for side := 1; side <= 64; side *= 2 {
			b := box(slices.Repeat(list(-7), n), slices.Repeat(list(side-8), n))
			s, e := space.Seq(ordered(api.Hilbert, 0), b)
			if e == api.ErrMany {
				continue
			}
			for i := 1; i < len(s); i++ {
				far := 0
				for k := range n {
					far += max(s[i][k]-s[i-1][k], s[i-1][k]-s[i][k])
				}
				if far != 1 {
					t.Fatal(n, side, s[i-1], s[i])
				}
			}
		}
	}
}

func TestHilbertAscends(t *testing.T) {
	for hi := range 200 {
		s, e := space.Seq(ordered(api.Hilbert, 0), box(list(-3), list(hi-3)))
		if e != api.OK || len(s) != hi+1 || !slices.IsSortedFunc(s, space.Compare) {
			t.Error(hi, s, e)
		}
	}
}
