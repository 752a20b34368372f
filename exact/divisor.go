package exact

import "math/bits"

// commonWord returns the greatest common divisor of a and b.
func commonWord(a, b uint64) uint64 {
	for b != 0 {
		a, b = b, a%b
	}
	return a
}

// commonDivisor returns the greatest common divisor of a and b.
func commonDivisor(a, b natural) natural {
	if a.isOne() || b.isOne() {
		return word(1)
	}
	if a.compare(b) < 0 {
		a, b = b, a
	}
	for len(b) > 1 {
		if s := foresee(a, b); s.count > 0 {
			a, b = s.done(a, b)
		} else {
			_, rest := a.divided(b)
			a, b = b, rest
		}
	}
	if len(b) == 0 {
		return a
	}
	_, rest := a.divided(b)
	return word(commonWord(b[0], rest.at(0)))
}

// steps are some steps of Euclid's algorithm for a and b at once.
// After an even count of them, a and b have become a0 a - b0 b and b1 b - a1 a; after an odd count, both with the other sign.
type steps struct {
	count          int
	a0, b0, a1, b1 uint64
}

// foresee returns as many steps as the first 64 bits of a, and those of b at the same places, tell for sure, for an a not less than b, both of at least two words.
// A step is sure if its rest is not less than the factor of b in it, and the rest before is greater than it by at least the sum
// of the last two factors of b (the condition of Collins): then the bits that were left out cannot change the quotient. No factor overflows.
func foresee(a, b natural) steps {
	n := len(a)
	by := bits.LeadingZeros64(a[n-1])
	x := a[n-1]<<by | a[n-2]>>(64-by)
	y := b.at(n-1)<<by | b.at(n-2)>>(64-by)
	s := steps{a0: 1, b1: 1}
	for y != 0 {
		q, rest := x/y, x%y
		a2, b2 := s.a0+q*s.a1, s.b0+q*s.b1
		if rest < b2 || y-rest < s.b1+b2 {
			break
		}
		x, y = y, rest
		s = steps{s.count + 1, s.a1, s.b1, a2, b2}
	}
	return s
}

// done returns what a and b become by the steps.
func (s steps) done(a, b natural) (natural, natural) {
	if s.count%2 == 0 {
		return difference(a, s.a0, b, s.b0), difference(b, s.b1, a, s.a1)
	}
	return difference(b, s.b0, a, s.a0), difference(a, s.a1, b, s.b1)
}

// difference returns a v - b w, which is from 0 to the greater one of a and b.
func difference(a natural, v uint64, b natural, w uint64) natural {
	out := make(natural, max(len(a), len(b)))
	var x, y, xCarry, yCarry, borrow uint64
	for i := range out {
		x, xCarry = mulWords(a.at(i), v, xCarry)
		y, yCarry = mulWords(b.at(i), w, yCarry)
		out[i], borrow = subWords(x, y, borrow)
	}
	return out.trimmed()
}
