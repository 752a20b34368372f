package exact

import "math/bits"

// natural is an integer from 0 on: its words, the lowest one first, the last one not 0.
// Only the function that makes one changes its words, so naturals may share them; each number gets words of its own.
type natural []uint64

// word returns the natural that is w.
func word(w uint64) natural {
	if w == 0 {
		return nil
	}
	return natural{w}
}

// trimmed returns a without the zero words at its end.
func (a natural) trimmed() natural {
	n := len(a)
	for n > 0 && a[n-1] == 0 {
		n--
	}
	return a[:n]
}

// at returns the word with the number i, also behind the last one.
func (a natural) at(i int) uint64 {
	if i < len(a) {
		return a[i]
	}
	return 0
}

// isOne reports whether a is 1.
func (a natural) isOne() bool { return len(a) == 1 && a[0] == 1 }

// length returns how many binary digits a has.
func (a natural) length() int {
	if len(a) == 0 {
		return 0
	}
	return 64*(len(a)-1) + bits.Len64(a[len(a)-1])
}

// compare returns -1, 0 or 1 if a is less than b, equal to it, or greater.
func (a natural) compare(b natural) int {
	if len(a) != len(b) {
		if len(a) < len(b) {
			return -1
		}
		return 1
	}
	for i := len(a) - 1; i >= 0; i-- {
		if a[i] < b[i] {
			return -1
		}
		if a[i] > b[i] {
			return 1
		}
	}
	return 0
}

// addWords returns the lowest word of x + y + carry, and the carry. A sum that wrapped around is less than what was added.
func addWords(x, y, carry uint64) (uint64, uint64) {
	sum := x + y
	var over uint64
	if sum < x {
		over = 1
	}
	sum += carry
	if sum < carry {
		over = 1
	}
	return sum, over
}

// subWords returns the lowest word of x - y - borrow, and the borrow. A difference that wrapped around is greater than x.
func subWords(x, y, borrow uint64) (uint64, uint64) {
	diff := x - y
	var under uint64
	if diff > x {
		under = 1
	}
	if diff < borrow {
		under = 1
	}
	return diff - borrow, under
}

// mulWords returns the two words of x y + carry, the lower one first.
func mulWords(x, y, carry uint64) (uint64, uint64) {
	high, low := bits.Mul64(x, y)
	low += carry
	if low < carry {
		high++
	}
	return low, high
}

// plus returns a + b.
func (a natural) plus(b natural) natural {
	if len(a) < len(b) {
		a, b = b, a
	}
	sum := make(natural, len(a)+1)
	var carry uint64
	for i, x := range a {
		sum[i], carry = addWords(x, b.at(i), carry)
	}
	sum[len(a)] = carry
	return sum.trimmed()
}

// minus returns a - b, for a b that is not greater than a.
func (a natural) minus(b natural) natural {
	diff := make(natural, len(a))
	var borrow uint64
	for i, x := range a {
		diff[i], borrow = subWords(x, b.at(i), borrow)
	}
	return diff.trimmed()
}

// times returns a b.
func (a natural) times(b natural) natural {
	product := make(natural, len(a)+len(b))
	for i, x := range a {
		product[i+len(b)] = addProduct(product[i:i+len(b)], b, x)
	}
	return product.trimmed()
}

// addProduct adds the words of a w to those of sum, which are as many as those of a, and returns the carry.
func addProduct(sum, a natural, w uint64) uint64 {
	var carry, over uint64
	for i, x := range a {
		var low uint64
		low, carry = mulWords(x, w, carry)
		sum[i], over = addWords(sum[i], low, 0)
		carry += over
	}
	return carry
}
