package agg

import (
	"tesseract/api"
	"tesseract/exact"
)

// The bounds of integers that are added up in a word: maxWhole is the greatest absolute value of one, and maxRoot of one whose square is added.
const (
	maxWhole = 1 << 62
	maxRoot  = 1 << 31
)

// total is a sum of numbers, of which most are small integers: these are added up in a word, as windows add millions of them.
type total struct {
	small int64      // its absolute value is less than maxWhole
	large *exact.Rat // what else was added; nil is 0
}

// rat returns the sum.
func (t total) rat() *exact.Rat {
	small, _ := exact.Of(t.small, 1)
	if t.large == nil {
		return small
	}
	return exact.Add(t.large, small)
}

// addRat adds a number.
func (t *total) addRat(x *exact.Rat) {
	if t.large != nil {
		x = exact.Add(t.large, x)
	}
	t.large = x
}

// addWhole adds an integer whose absolute value is at most maxWhole. The sum of both fits a word.
func (t *total) addWhole(n int64) {
	t.small += n
	if t.small <= -maxWhole || t.small >= maxWhole {
		x, _ := exact.Of(t.small, 1)
		t.small = 0
		t.addRat(x)
	}
}

// add adds a numeric value.
func (t *total) add(v api.Val) {
	if v.D == 1 {
		t.addWhole(v.N)
		return
	}
	x, _ := exact.Number(v)
	t.addRat(x)
}

// addSquare adds the square of a numeric value.
func (t *total) addSquare(v api.Val) {
	if v.D == 1 && v.N >= -maxRoot && v.N <= maxRoot {
		t.addWhole(v.N * v.N)
		return
	}
	x, _ := exact.Number(v)
	t.addRat(exact.Mul(x, x))
}

// merge adds another sum, which may be a copy of this one.
func (t *total) merge(u total) {
	t.addWhole(u.small)
	if u.large != nil {
		t.addRat(u.large)
	}
}
