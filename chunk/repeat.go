package chunk

import (
	"bytes"

	"tesseract/api"
)

// runs returns the finder of Rle.
func runs(b []byte) finder {
	return func(i int) (int, []byte) {
		n := 1
		for n < minRun+moreRepeats && i+n < len(b) && b[i+n] == b[i] {
			n++
		}
		return n, b[i : i+1]
	}
}

// appendRun appends the bytes of a run.
func appendRun(out []byte, more int, tail []byte) []byte {
	return append(out, bytes.Repeat(tail, minRun+more)...)
}

// hashBits is how many bits a hash of the first bytes of a copy has.
const hashBits = 10

// history finds earlier bytes that are equal to the next ones. Looking for them at each distance would take too long:
// it follows the indexes at which the first bytes of a copy have the same hash, from the latest one on.
type history struct {
	bytes   []byte
	noted   int                // the indexes below this one were noted
	latest  [1 << hashBits]int // for each hash the last index with it, plus 1, or 0
	earlier [maxDistance]int   // for each index that is not too far away, modulo the distance, the one before it in the same way
}

// copies returns the finder of Lz, which must be asked for ascending indexes.
func copies(b []byte) finder {
	h := history{bytes: b}
	return h.find
}

// hash returns the hash of the first bytes of a copy at the index i.
func (h *history) hash(i int) uint32 {
	b := h.bytes[i : i+minCopy]
	first := uint32(b[0]) | uint32(b[1])<<8 | uint32(b[2])<<16 | uint32(b[3])<<24
	return first * 2654435761 >> (32 - hashBits) // a product with a number of which nearly all bits matter spreads the hashes
}

// find returns the length of the longest copy at the index i, and its least distance in two bytes.
func (h *history) find(i int) (int, []byte) {
	if i+minCopy > len(h.bytes) {
		return 0, nil
	}
	for ; h.noted < i; h.noted++ {
		last := &h.latest[h.hash(h.noted)]
		h.earlier[h.noted%maxDistance] = *last
		*last = h.noted + 1
	}
	n, distance := 0, 0
	for k := h.latest[h.hash(i)] - 1; k >= 0 && i-k <= maxDistance; k = h.earlier[k%maxDistance] - 1 {
		if more := h.common(k, i); more > n {
			n, distance = more, i-k
		}
		if n == minCopy+moreRepeats {
			break
		}
	}
	if n < minCopy {
		return 0, nil
	}
	return n, []byte{byte(distance >> 8), byte(distance)}
}

// common returns how many bytes from the index k on are equal to those from i on, as far as a copy can reach.
func (h *history) common(k, i int) int {
	n := 0
	for n < minCopy+moreRepeats && i+n < len(h.bytes) && h.bytes[k+n] == h.bytes[i+n] {
		n++
	}
	return n
}

// appendCopy appends the bytes of a copy, the first of which may be among those that the last ones are copied from.
func appendCopy(out []byte, more int, tail []byte) []byte {
	distance := int(tail[0])<<8 | int(tail[1])
	if distance == 0 || distance > maxDistance || distance > len(out) {
		panic(giveUp{api.ErrForm})
	}
	for range minCopy + more {
		out = append(out, out[len(out)-distance])
	}
	return out
}
