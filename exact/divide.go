package exact

import (
	"math/bits"
	"slices"
)

// by returns a / b, rounded down, for a b that is not 0; a itself if b is 1.
func (a natural) by(b natural) natural {
	if b.isOne() {
		return a
	}
	quotient, _ := a.divided(b)
	return quotient
}

// divided returns a / b, rounded down, and what is left (a itself if it is less than b), for a b that is not 0.
func (a natural) divided(b natural) (natural, natural) {
	if a.compare(b) < 0 {
		return nil, a
	}
	if len(b) == 1 {
		quotient := slices.Clone(a)
		rest := quotient.divideInPlace(b[0])
		return quotient.trimmed(), word(rest)
	}
	return a.longDivided(b)
}

// divideInPlace makes a / w, rounded down, of the words of a, perhaps with zeros at the end, and returns what is left.
func (a natural) divideInPlace(w uint64) uint64 {
	var rest uint64
	for i := len(a) - 1; i >= 0; i-- {
		a[i], rest = bits.Div64(rest, a[i], w)
	}
	return rest
}

// longDivided is divided for a b of at least two words that is not greater than a.
// Both are shifted first, so that the highest bit of b is 1: then the first two words of b tell each word of the quotient, or 1 more.
func (a natural) longDivided(b natural) (natural, natural) {
	n := len(b)
	by := bits.LeadingZeros64(b[n-1])
	divisor := b.shifted(by, n)
	rest := a.shifted(by, len(a)+1)
	quotient := make(natural, len(a)-n+1)
	for k := len(a) - n; k >= 0; k-- {
		part := rest[k : k+n+1]
		q := guess(part[n], part[n-1], part[n-2], divisor[n-1], divisor[n-2])
		if subProduct(part, divisor, q) {
			q--
			part[n] += addProduct(part[:n], divisor, 1)
		}
		quotient[k] = q
	}
	return quotient.trimmed(), rest[:n].unshifted(by)
}

// guess returns the three words a2, a1, a0 divided by the two words b1, b0, rounded down, but at most the greatest word.
// The highest bit of b1 is 1, and a2 is at most b1.
func guess(a2, a1, a0, b1, b0 uint64) uint64 {
	var q, rest uint64
	if a2 < b1 {
		q, rest = bits.Div64(a2, a1, b1)
	} else {
		q, rest = ^uint64(0), a1+b1
		if rest < b1 {
			return q
		}
	}
	for {
		high, low := bits.Mul64(q, b0)
		if high < rest || high == rest && low <= a0 {
			return q
		}
		q--
		rest += b1
		if rest < b1 {
			return q
		}
	}
}

// subProduct subtracts b q from a, which has one word more than b, and reports whether a wrapped around.
func subProduct(a, b natural, q uint64) bool {
	var carry, borrow uint64
	for i, x := range b {
		var low uint64
		low, carry = mulWords(x, q, carry)
		a[i], borrow = subWords(a[i], low, borrow)
	}
	a[len(b)], borrow = subWords(a[len(b)], carry, borrow)
	return borrow != 0
}

// shifted returns a times 2^by in new memory, for a by below 64, with so many words that none is lost.
func (a natural) shifted(by, words int) natural {
	out := make(natural, words)
	var carry uint64
	for i := range out {
		x := a.at(i)
		out[i] = x<<by | carry
		carry = x >> (64 - by)
	}
	return out
}

// unshifted returns a / 2^by, rounded down, for a by below 64.
func (a natural) unshifted(by int) natural {
	out := make(natural, len(a))
	for i, x := range a {
		out[i] = x>>by | a.at(i+1)<<(64-by)
	}
	return out.trimmed()
}
