package space

import "tesseract/api"

// maxVolume is how many coordinates can be numbered.
const maxVolume = 1 << 62

// Volume returns how many coordinates there are.
func Volume(d []api.Dim) (int, api.Errno) {
	if e := dimsError(d, names{}); e != api.OK {
		return 0, e
	}
	for _, x := range d {
		if x.Hi == api.Open {
			return 0, api.ErrRange
		}
	}
	volume := 1
	for _, x := range d {
		if volume > maxVolume/extent(x) { // the product would be greater, and may not fit
			return 0, api.ErrOver
		}
		volume *= extent(x)
	}
	return volume, api.OK
}

// Index returns the number of coordinates in row-major order.
func Index(d []api.Dim, at []int) (int, api.Errno) {
	if _, e := Volume(d); e != api.OK {
		return 0, e
	}
	if e := placeError(d, at); e != api.OK {
		return 0, e
	}
	index := 0
	for k, x := range d {
		index = index*extent(x) + at[k] - x.Lo
	}
	return index, api.OK
}

// At returns the coordinates with a number.
func At(d []api.Dim, index int) ([]int, api.Errno) {
	volume, e := Volume(d)
	if e != api.OK {
		return nil, e
	}
	if index < 0 || index >= volume {
		return nil, api.ErrRange
	}
	at := make([]int, len(d))
	for k := len(d) - 1; k >= 0; k-- {
		at[k] = d[k].Lo + index%extent(d[k])
		index /= extent(d[k])
	}
	return at, api.OK
}
