package chunk

import (
	"slices"

	"tesseract/api"
)

// slots are the values of the cells of a chunk, in the order of their positions; at a position without a cell there are none.
type slots [][]api.Val

// form writes slots as the body of a chunk, and reads them. The reader fills slots that are empty at first, and gives up if the bytes can't be read,
// but does not examine whether they were written in this way.
type form struct {
	write func(s slots, attrs int) []byte
	read  func(r *reader, s slots, attrs int)
}

// forms returns the forms by their numbers.
func forms() [api.Coords + 1]form {
	return [...]form{
		api.Dense:  {write: writeDense, read: readDense},
		api.Runs:   {write: writeRuns, read: readRuns},
		api.Coords: {write: writeCoords, read: readCoords},
	}
}

func writeDense(s slots, attrs int) []byte {
	out := make([]byte, (len(s)+7)/8)
	for i, vals := range s {
		if vals != nil {
			out[i/8] |= 1 << (i % 8)
		}
	}
	return appendColumns(out, s, attrs)
}

func readDense(r *reader, s slots, attrs int) {
	bits := r.take((len(s) + 7) / 8)
	for i := range s {
		if bits[i/8]>>(i%8)&1 == 1 {
			s[i] = make([]api.Val, attrs)
		}
	}
	readColumns(r, s, attrs)
}

func writeRuns(s slots, attrs int) []byte {
	var out []byte
	for i := 0; i < len(s); {
		vals, n := s[i], 1
		for i+n < len(s) && slices.Equal(vals, s[i+n]) {
			n++
		}
		i += n
		out = appendVarint(out, uint64(n))
		if vals == nil {
			out = append(out, 0)
			continue
		}
		out = append(out, 1)
		for _, v := range vals {
			out = appendValue(out, v, 0)
		}
	}
	return out
}

func readRuns(r *reader, s slots, attrs int) {
	for i := 0; i < len(s); {
		n := r.below(len(s) - i + 1)
		if r.next() != 0 {
			vals := make([]api.Val, attrs)
			for k := range vals {
				vals[k] = readValue(r, 0)
			}
			for k := range n {
				s[i+k] = slices.Clone(vals)
			}
		}
		i += n
	}
}

func writeCoords(s slots, attrs int) []byte {
	var gaps []byte
	count, gap := 0, 0
	for _, vals := range s {
		if vals == nil {
			gap++
			continue
		}
		gaps = appendVarint(gaps, uint64(gap))
		count++
		gap = 0
	}
	out := append(appendVarint(nil, uint64(count)), gaps...)
	return appendColumns(out, s, attrs)
}

func readCoords(r *reader, s slots, attrs int) {
	i := 0
	for range r.below(len(s) + 1) {
		i += r.below(len(s) - i)
		s[i] = make([]api.Val, attrs)
		i++
	}
	readColumns(r, s, attrs)
}

// appendColumns appends the columns of all cells.
func appendColumns(out []byte, s slots, attrs int) []byte {
	for k := range attrs {
		before := int64(0)
		for _, vals := range s {
			if vals != nil {
				out = appendValue(out, vals[k], before)
				before = lastInteger(vals[k], before)
			}
		}
	}
	return out
}

// readColumns reads the columns of all cells.
func readColumns(r *reader, s slots, attrs int) {
	for k := range attrs {
		before := int64(0)
		for _, vals := range s {
			if vals != nil {
				vals[k] = readValue(r, before)
				before = lastInteger(vals[k], before)
			}
		}
	}
}
