package exact

import (
	"slices"
	"strconv"
	"strings"
)

// A word holds this many decimal digits, and this power of ten.
const (
	wordDigits = 19
	wordPower  = 10000000000000000000
)

// decimal returns the decimal digits of a.
func (a natural) decimal() string {
	if len(a) == 0 {
		return "0"
	}
	left := slices.Clone(a)
	var parts []string // the last digits first
	for len(left) > 0 {
		digits := strconv.FormatUint(left.divideInPlace(wordPower), 10)
		left = left.trimmed()
		if len(left) > 0 {
			digits = strings.Repeat("0", wordDigits-len(digits)) + digits
		}
		parts = append(parts, digits)
	}
	var out strings.Builder
	for i := len(parts) - 1; i >= 0; i-- {
		out.WriteString(parts[i])
	}
	return out.String()
}

// isDecimal reports whether s consists of decimal digits, without zeros before other digits.
func isDecimal(s string) bool {
	if s == "" || len(s) > 1 && s[0] == '0' {
		return false
	}
	for i := range len(s) {
		if s[i] < '0' || s[i] > '9' {
			return false
		}
	}
	return true
}

// readDecimal returns the natural with these decimal digits.
func readDecimal(s string) natural {
	out := make(natural, len(s)/wordDigits+1)
	for len(s) > 0 {
		n := (len(s)-1)%wordDigits + 1 // all parts but the first one fill a word
		var part uint64
		for i := range n {
			part = 10*part + uint64(s[i]-'0')
		}
		carry := part
		for i, x := range out {
			out[i], carry = mulWords(x, wordPower, carry)
		}
		s = s[n:]
	}
	return out.trimmed()
}
