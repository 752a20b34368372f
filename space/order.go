package space

import (
	"cmp"
	"math/bits"

	"tesseract/api"
)

// frame is what the orders need to know of a box and a layout. Its methods return keys: the coordinates of the box are ordered by them.
type frame struct {
	box   api.Box
	tile  int
	width int // the number of bits of each coordinate, less the one of box.Lo
}

// keys returns the method that computes the keys of the order of a layout within a box.
func keys(l api.Layout, b api.Box) func([]int) int {
	f := frame{box: b, tile: l.Tile}
	for k, lo := range b.Lo {
		f.width = max(f.width, bits.Len(uint(b.Hi[k]-lo)))
	}
	switch l.Order {
	case api.Tiled:
		return f.tiled
	case api.Hilbert:
		return f.hilbert
	}
	return f.rowMajor
}

// extent returns how many coordinates the box has along a dimension.
func (f frame) extent(k int) int { return f.box.Hi[k] - f.box.Lo[k] + 1 }

// rowMajor returns the key of RowMajor, which is below MaxVolume.
func (f frame) rowMajor(at []int) int {
	key := 0
	for k, x := range at {
		key = key*f.extent(k) + x - f.box.Lo[k]
	}
	return key
}

// tiled returns the key of Tiled. A quotient is less than the extent, so quotients are numbered as coordinates are.
func (f frame) tiled(at []int) int {
	tile := 0
	for k, x := range at {
		tile = tile*f.extent(k) + (x-f.box.Lo[k])/f.tile
	}
	return tile*api.MaxVolume + f.rowMajor(at)
}

// hilbert returns the key of Hilbert.
func (f frame) hilbert(at []int) int {
	var offsets [api.MaxDims]int
	y := offsets[:len(at)]
	for k, x := range at {
		y[k] = x - f.box.Lo[k]
	}
	for q := f.width - 1; q >= 1; q-- {
		turn(y, q)
	}
	for k := 1; k < len(y); k++ {
		y[k] ^= y[k-1]
	}
	t := 0
	for q := f.width - 1; q >= 1; q-- {
		if hasBit(y[len(y)-1], q) {
			t ^= 1<<q - 1
		}
	}
	for k := range y {
		y[k] ^= t
	}
	return interleaved(y, f.width)
}

// hasBit reports whether the bit q of y is 1.
func hasBit(y, q int) bool { return y>>q&1 == 1 }

// turn does step 1 of the key for one q: it changes the bits below q.
func turn(y []int, q int) {
	low := 1<<q - 1
	for k := range y {
		if hasBit(y[k], q) {
			y[0] ^= low
			continue
		}
		differ := (y[0] ^ y[k]) & low
		y[0] ^= differ
		y[k] ^= differ
	}
}

// interleaved returns the number whose digits are the bits of all y, the highest ones first.
func interleaved(y []int, width int) int {
	key := 0
	for q := width - 1; q >= 0; q-- {
		for _, x := range y {
			key = key<<1 | x>>q&1
		}
	}
	return key
}

// orderError returns the error of an order, and of a box for it that has n dimensions.
func orderError(l api.Layout, b api.Box, n int) api.Errno {
	if !validOrder(l) {
		return api.ErrArg
	}
	if !wellFormed(b) || len(b.Lo) != n {
		return api.ErrShape
	}
	for k, hi := range b.Hi {
		if hi >= api.Open || hi < b.Lo[k] {
			return api.ErrRange
		}
	}
	volume := uint(1)
	for k, hi := range b.Hi {
		more := uint(hi) - uint(b.Lo[k]) // the difference as an integer may not fit
		if more >= api.MaxVolume {
			return api.ErrMany
		}
		volume *= more + 1
	}
	if volume > api.MaxVolume {
		return api.ErrMany
	}
	return api.OK
}

// Rank returns the position of coordinates in the order of a layout within a box.
func Rank(l api.Layout, b api.Box, at []int) (int, api.Errno) {
	if e := orderError(l, b, len(at)); e != api.OK {
		return 0, e
	}
	if !Has(b, at) {
		return 0, api.ErrRange
	}
	key := keys(l, b)
	own := key(at)
	rank := 0
	for c := range coordinates(b) {
		if key(c) < own {
			rank++
		}
	}
	return rank, api.OK
}

// Seq returns the coordinates of a box in the order of a layout.
func Seq(l api.Layout, b api.Box) ([][]int, api.Errno) {
	if e := orderError(l, b, len(b.Lo)); e != api.OK {
		return nil, e
	}
	return sorted(coordinates(b), keys(l, b), cmp.Compare), api.OK
}
