// Package exact is layer 1: exact rational numbers of any size, and the values of cells. See shared/doc/01-exact.md.
package exact

import (
	"slices"
	"strings"

	"tesseract/api"
)

// maxParse is how many bytes a string that is parsed has at most.
const maxParse = 10000

// Rat is a rational number of any size. It does not change.
type Rat struct {
	self  *Rat // the Rat itself, so that one that no function of this package returned, also a copied one, is found out
	below bool // whether the number is below 0
	num   natural
	den   natural
}

// valid reports whether a function of this package returned x.
func valid(x *Rat) bool { return x != nil && x.self == x }

// made returns the number with this sign, numerator and denominator, which are in lowest terms.
func made(below bool, num, den natural) *Rat {
	x := &Rat{below: below && len(num) > 0, num: num, den: den}
	x.self = x
	return x
}

// Of returns num / den, or ErrArg if den is 0.
func Of(num, den int64) (*Rat, api.Errno) {
	if den == 0 {
		return nil, api.ErrArg
	}
	n, d := absolute(num), absolute(den)
	common := commonWord(n, d)
	return made((num < 0) != (den < 0), word(n/common), word(d/common)), api.OK
}

// absolute returns the absolute value of n, which is right for the least integer, too, because unsigned numbers wrap around.
func absolute(n int64) uint64 {
	if n < 0 {
		return -uint64(n)
	}
	return uint64(n)
}

// Parse returns the number of which s is the string.
func Parse(s string) (*Rat, api.Errno) {
	if len(s) > maxParse {
		return nil, api.ErrLong
	}
	digits, below := strings.CutPrefix(s, "-")
	upper, lower, fraction := strings.Cut(digits, "/")
	if !fraction {
		lower = "1"
	} else if lower == "1" {
		return nil, api.ErrForm
	}
	if !isDecimal(upper) || !isDecimal(lower) {
		return nil, api.ErrForm
	}
	num, den := readDecimal(upper), readDecimal(lower)
	if below && len(num) == 0 || len(den) == 0 || !commonDivisor(num, den).isOne() {
		return nil, api.ErrForm
	}
	return made(below, num, den), api.OK
}

// Text returns the string of x.
func (x *Rat) Text() string {
	if !valid(x) {
		return ""
	}
	s := x.num.decimal()
	if x.below {
		s = "-" + s
	}
	if !x.den.isOne() {
		s += "/" + x.den.decimal()
	}
	return s
}

// Add returns x + y.
func Add(x, y *Rat) *Rat {
	if !valid(x) || !valid(y) {
		return nil
	}
	return added(x, y, y.below)
}

// Sub returns x - y.
func Sub(x, y *Rat) *Rat {
	if !valid(x) || !valid(y) {
		return nil
	}
	return added(x, y, !y.below)
}

// added returns the sum of x and of a number that has the absolute value of y, and is below 0 if below says so.
// It divides by common divisors of the denominators first, so that the sum of a long list is found without large divisors.
func added(x, y *Rat, below bool) *Rat {
	shared := commonDivisor(x.den, y.den)
	xRest, yRest := x.den.by(shared), y.den.by(shared)
	below, num := signedSum(x.below, x.num.times(yRest), below, y.num.times(xRest))
	common := commonDivisor(num, shared)
	return made(below, num.by(common), xRest.times(y.den.by(common)))
}

// signedSum returns the sign and the absolute value of the sum of two integers with these signs and absolute values.
func signedSum(aBelow bool, a natural, bBelow bool, b natural) (bool, natural) {
	if aBelow == bBelow {
		return aBelow, a.plus(b)
	}
	if a.compare(b) < 0 {
		return bBelow, b.minus(a)
	}
	return aBelow, a.minus(b)
}

// Mul returns x y.
func Mul(x, y *Rat) *Rat {
	if !valid(x) || !valid(y) {
		return nil
	}
	return multiplied(x, y.below, y.num, y.den)
}

// Quo returns x / y.
func Quo(x, y *Rat) (*Rat, api.Errno) {
	if !valid(x) || !valid(y) {
		return nil, api.ErrNil
	}
	if len(y.num) == 0 {
		return nil, api.ErrArg
	}
	return multiplied(x, y.below, y.den, y.num), api.OK
}

// multiplied returns the product of x and of the number with this sign, numerator and denominator.
func multiplied(x *Rat, below bool, num, den natural) *Rat {
	a := commonDivisor(x.num, den)
	b := commonDivisor(num, x.den)
	return made(x.below != below, x.num.by(a).times(num.by(b)), x.den.by(b).times(den.by(a)))
}

// Sum returns the sum of a list.
func Sum(l []*Rat) *Rat {
	sum := made(false, nil, word(1))
	for x := range slices.Values(l) {
		if !valid(x) {
			return nil
		}
		sum = Add(sum, x)
	}
	return sum
}

// Cmp compares x and y.
func Cmp(x, y *Rat) int {
	if !valid(x) || !valid(y) {
		return 0
	}
	if x.below != y.below {
		if x.below {
			return -1
		}
		return 1
	}
	c := x.num.times(y.den).compare(y.num.times(x.den))
	if x.below {
		return -c
	}
	return c
}

// Sign returns the sign of x.
func (x *Rat) Sign() int {
	switch {
	case !valid(x) || len(x.num) == 0:
		return 0
	case x.below:
		return -1
	}
	return 1
}

// Floor returns the greatest integer that is not greater than x.
func (x *Rat) Floor() *Rat {
	if !valid(x) {
		return nil
	}
	whole, rest := x.num.divided(x.den)
	if x.below && len(rest) > 0 {
		whole = whole.plus(word(1))
	}
	return made(x.below, whole, word(1))
}

// Whole reports whether x is an integer.
func (x *Rat) Whole() bool { return valid(x) && x.den.isOne() }

// Bits returns the lengths, in bits, of the numerator and the denominator.
func (x *Rat) Bits() (int, int) {
	if !valid(x) {
		return 0, 0
	}
	return x.num.length(), x.den.length()
}
