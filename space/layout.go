package space

import (
	"slices"

	"tesseract/api"
)

// Layout checks a layout for some dimensions.
func Layout(d []api.Dim, l api.Layout) api.Errno {
	if e := dimsError(d, names{}); e != api.OK {
		return e
	}
	if len(l.Sides) != len(d) || len(l.Overlap) != len(d) {
		return api.ErrShape
	}
	volume := 1
	for k, s := range l.Sides {
		o := l.Overlap[k]
		if s < 1 || s > api.MaxSide || o < 0 || o > min(api.MaxOverlap, s) {
			return api.ErrRange
		}
		volume *= s + 2*o
	}
	if volume > api.MaxVolume {
		return api.ErrMany
	}
	formed := l.Form >= api.Dense && l.Form <= api.Coords
	coded := l.Codec >= api.Plain && l.Codec <= api.Lz
	if !validOrder(l) || !formed || !coded {
		return api.ErrArg
	}
	return api.OK
}

// validOrder reports whether the order of a layout is one, and the tile fits it.
func validOrder(l api.Layout) bool {
	switch l.Order {
	case api.RowMajor, api.Hilbert:
		return l.Tile == 0
	case api.Tiled:
		return l.Tile >= 1 && l.Tile <= api.MaxSide
	}
	return false
}

// Chunk returns the number of the chunk, along each dimension, that has coordinates in its core.
func Chunk(d []api.Dim, l api.Layout, at []int) ([]int, api.Errno) {
	if e := atError(d, l, at); e != api.OK {
		return nil, e
	}
	c := make([]int, len(d))
	for k, s := range l.Sides {
		c[k] = (at[k] - d[k].Lo) / s
	}
	return c, api.OK
}

// atError returns the error of Layout, and that of coordinates.
func atError(d []api.Dim, l api.Layout, at []int) api.Errno {
	if e := Layout(d, l); e != api.OK {
		return e
	}
	return placeError(d, at)
}

// lastChunk returns the number of the last chunk along a dimension.
func lastChunk(d api.Dim, side int) int { return (last(d) - d.Lo) / side }

// Core returns the box of a chunk without its overlap.
func Core(d []api.Dim, l api.Layout, c []int) (api.Box, api.Errno) {
	if e := Layout(d, l); e != api.OK {
		return api.Box{}, e
	}
	if len(c) != len(d) {
		return api.Box{}, api.ErrShape
	}
	b := api.Box{Lo: make([]int, len(d)), Hi: make([]int, len(d))}
	for k, s := range l.Sides {
		if c[k] < 0 || c[k] > lastChunk(d[k], s) {
			return api.Box{}, api.ErrRange
		}
		b.Lo[k] = d[k].Lo + c[k]*s
		b.Hi[k] = min(b.Lo[k]+s-1, last(d[k]))
	}
	return b, api.OK
}

// Wide returns the box of a chunk with its overlap.
func Wide(d []api.Dim, l api.Layout, c []int) (api.Box, api.Errno) {
	b, e := Core(d, l, c)
	if e != api.OK {
		return api.Box{}, e
	}
	for k, o := range l.Overlap {
		b.Lo[k] = max(b.Lo[k]-o, d[k].Lo)
		b.Hi[k] = min(b.Hi[k]+o, last(d[k]))
	}
	return b, api.OK
}

// Homes returns the chunks in whose wide boxes coordinates are.
func Homes(d []api.Dim, l api.Layout, at []int) ([][]int, api.Errno) {
	if e := atError(d, l, at); e != api.OK {
		return nil, e
	}
	b := api.Box{Lo: make([]int, len(d)), Hi: make([]int, len(d))}
	for k, s := range l.Sides {
		y := at[k] - d[k].Lo
		b.Lo[k] = max(y-l.Overlap[k], 0) / s
		b.Hi[k] = min((y+l.Overlap[k])/s, lastChunk(d[k], s))
	}
	return slices.Collect(coordinates(b)), api.OK
}
