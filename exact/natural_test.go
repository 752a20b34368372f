package exact

import (
	"math/big"
	"strings"
	"testing"
)

// dice makes numbers that look random, the same ones in each run.
type dice uint64

func (d *dice) next() uint64 {
	*d = *d*6364136223846793005 + 1442695040888963407
	x := uint64(*d)
	return x ^ x>>29
}

// natural returns a natural of at most n words, many of which are at the bounds of a word.
func (d *dice) natural(n int) natural {
	a := make(natural, d.next()%uint64(n+1))
	for i := range a {
		switch d.next() % 6 {
		case 0:
			a[i] = 0
		case 1:
			a[i] = ^uint64(0)
		case 2:
			a[i] = 1 << 63
		case 3:
			a[i] = d.next() % 3
		default:
			a[i] = d.next()
		}
	}
	return a.trimmed()
}

func bigOf(a natural) *big.Int {
	out := new(big.Int)
	for i := len(a) - 1; i >= 0; i-- {
		out.Lsh(out, 64).Or(out, new(big.Int).SetUint64(a[i]))
	}
	return out
}

func wantNatural(t *testing.T, what string, got natural, want *big.Int) {
	t.Helper()
	if len(got) > 0 && got[len(got)-1] == 0 || bigOf(got).Cmp(want) != 0 {
		t.Fatalf("%s: %v, want %s", what, got, want)
	}
}

func TestNaturalArithmetic(t *testing.T) {
	d := dice(1)
	for range 20000 {
		a, b := d.natural(6), d.natural(4)
		x, y := bigOf(a), bigOf(b)
		if a.compare(b) != x.Cmp(y) || a.length() != x.BitLen() {
			t.Fatal(a, b, a.compare(b), a.length())
		}
		wantNatural(t, "plus", a.plus(b), new(big.Int).Add(x, y))
		wantNatural(t, "times", a.times(b), new(big.Int).Mul(x, y))
		wantNatural(t, "minus", a.plus(b).minus(b), x)
		wantNatural(t, "itself", a, x)
		wantNatural(t, "itself", b, y)
	}
}

func TestNaturalDivision(t *testing.T) {
	d := dice(2)
	for range 50000 {
		a, b := d.natural(7), d.natural(4)
		if d.next()%2 == 0 { // a dividend just below, at or above a product has quotients that are easily missed by 1
			a = b.times(d.natural(3))
			if d.next()%2 == 0 && len(a) > 0 {
				a = a.minus(word(1))
			}
		}
		if len(b) == 0 {
			continue
		}
		x, y := bigOf(a), bigOf(b)
		wantQuotient, wantRest := new(big.Int).QuoRem(x, y, new(big.Int))
		quotient, rest := a.divided(b)
		wantNatural(t, "quotient", quotient, wantQuotient)
		wantNatural(t, "rest", rest, wantRest)
		wantNatural(t, "by", a.by(b), wantQuotient)
		wantNatural(t, "itself", a, x)
		wantNatural(t, "itself", b, y)
	}
}

func TestNaturalDivisor(t *testing.T) {
	d := dice(3)
	for k := range 20000 {
		a, b := d.natural(8), d.natural(8)
		if k%2 == 0 {
			c := d.natural(4)
			a, b = a.times(c), b.times(c)
		}
		x, y := bigOf(a), bigOf(b)
		wantNatural(t, "divisor", commonDivisor(a, b), new(big.Int).GCD(nil, nil, x, y))
		wantNatural(t, "itself", a, x)
		wantNatural(t, "itself", b, y)
	}
	a, b := word(1), word(1) // numbers of Fibonacci need the most steps
	for range 3000 {
		a, b = b, a.plus(b)
		if !commonDivisor(a, b).isOne() {
			t.Fatal(a, b)
		}
	}
}

func TestNaturalDecimal(t *testing.T) {
	d := dice(4)
	for range 3000 {
		a := d.natural(40)
		s := bigOf(a).String()
		if a.decimal() != s {
			t.Fatal(a.decimal(), s)
		}
		wantNatural(t, "read", readDecimal(s), bigOf(a))
	}
	for n := range 60 {
		s := "1" + strings.Repeat("0", n)
		if got := readDecimal(s).decimal(); got != s {
			t.Error(n, got)
		}
	}
}
