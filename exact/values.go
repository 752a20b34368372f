package exact

import (
	"cmp"
	"math/bits"
	"strconv"
	"strings"

	"tesseract/api"
)

// Check checks a value.
func Check(v api.Val) api.Errno {
	if validValue(v) {
		return api.OK
	}
	return api.ErrArg
}

// validValue reports whether a value is valid.
func validValue(v api.Val) bool {
	switch v.Kind {
	case api.KMissing:
		return v == missing(v.N) && v.N >= 1 && v.N <= api.MaxReason
	case api.KBool:
		return v == truth(v.N == 1)
	case api.KNum:
		return v.S == "" && lowest(v.N, v.D)
	case api.KText:
		return v == api.Val{Kind: api.KText, S: v.S} && printable(v.S)
	}
	return false
}

// lowest reports whether num / den is a number of a value, in lowest terms.
func lowest(num, den int64) bool {
	inside := num >= -api.MaxNum && num <= api.MaxNum && den >= 1 && den <= api.MaxNum
	return inside && commonWord(absolute(num), uint64(den)) == 1
}

// printable reports whether s can be the text of a value.
func printable(s string) bool {
	if len(s) > api.MaxText {
		return false
	}
	for i := range len(s) {
		if s[i] < ' ' || s[i] > '~' {
			return false
		}
	}
	return true
}

// missing returns the missing value with a reason.
func missing(reason int64) api.Val { return api.Val{Kind: api.KMissing, N: reason} }

// truth returns a Boolean.
func truth(is bool) api.Val {
	if is {
		return api.Val{Kind: api.KBool, N: 1}
	}
	return api.Val{Kind: api.KBool}
}

// whole returns the value that is a small integer.
func whole(n int64) api.Val { return api.Val{Kind: api.KNum, N: n, D: 1} }

// Value returns a number as a value.
func Value(x *Rat) api.Val {
	if !valid(x) {
		return api.Val{}
	}
	if len(x.num) > 1 || len(x.den) > 1 || x.num.at(0) > api.MaxNum || x.den[0] > api.MaxNum {
		return missing(api.Over)
	}
	v := api.Val{Kind: api.KNum, N: int64(x.num.at(0)), D: int64(x.den[0])}
	if x.below {
		v.N = -v.N
	}
	return v
}

// Number returns the number that a value is.
func Number(v api.Val) (*Rat, bool) {
	if v.Kind != api.KNum || !validValue(v) {
		return nil, false
	}
	return rat(v), true
}

// rat returns the number of a numeric value.
func rat(v api.Val) *Rat {
	return made(v.N < 0, word(absolute(v.N)), word(uint64(v.D)))
}

// Fits reports whether a value can be one of an attribute of a type.
func Fits(v api.Val, typ int) bool {
	return isType(typ) && validValue(v) && fits(v, typ)
}

// fits is Fits for a valid value and a type.
func fits(v api.Val, typ int) bool {
	if v.Kind == api.KMissing {
		return true
	}
	switch typ {
	case api.TBool:
		return v.Kind == api.KBool
	case api.TInt:
		return v.Kind == api.KNum && v.D == 1
	case api.TRat:
		return v.Kind == api.KNum
	}
	return v.Kind == api.KText
}

// Order compares two values.
func Order(a, b api.Val) int {
	if !validValue(a) || !validValue(b) {
		return 0
	}
	if a.Kind != b.Kind {
		return cmp.Compare(a.Kind, b.Kind)
	}
	switch a.Kind {
	case api.KNum:
		return compareProducts(a.N, b.D, b.N, a.D)
	case api.KText:
		return cmp.Compare(a.S, b.S)
	}
	return cmp.Compare(a.N, b.N)
}

// compareProducts compares a b with c d, for a b and a d that are not below 0.
func compareProducts(a, b, c, d int64) int {
	abHigh, abLow := signedProduct(a, b)
	cdHigh, cdLow := signedProduct(c, d)
	if abHigh != cdHigh {
		return cmp.Compare(abHigh, cdHigh)
	}
	return cmp.Compare(abLow, cdLow)
}

// signedProduct returns the two words of a b, for a b that is not below 0.
// As an unsigned number, an a below 0 is greater by 2^64, and the product by b times as much.
func signedProduct(a, b int64) (int64, uint64) {
	high, low := bits.Mul64(uint64(a), uint64(b))
	if a < 0 {
		high -= uint64(b)
	}
	return int64(high), low
}

// Print returns the string of a value.
func Print(v api.Val) (string, api.Errno) {
	if !validValue(v) {
		return "", api.ErrArg
	}
	switch v.Kind {
	case api.KMissing:
		return "?" + strconv.FormatInt(v.N, 10), api.OK
	case api.KBool:
		return strconv.FormatBool(v.N == 1), api.OK
	case api.KNum:
		return rat(v).Text(), api.OK
	}
	return "'" + strings.ReplaceAll(v.S, "'", "''") + "'", api.OK
}

// Read returns the value that a string denotes.
// A string is that of a value if it is found again from the value that it seems to denote.
func Read(s string) (api.Val, api.Errno) {
	v := seeming(s)
	if again, e := Print(v); e != api.OK || again != s {
		return api.Val{}, api.ErrForm
	}
	return v, api.OK
}

// seeming returns the value that s denotes, if it denotes one.
func seeming(s string) api.Val {
	if s == "true" || s == "false" {
		return truth(s == "true")
	}
	if digits, ok := strings.CutPrefix(s, "?"); ok {
		reason, _ := strconv.ParseInt(digits, 10, 64)
		return missing(reason)
	}
	if len(s) >= 2 && s[0] == '\'' {
		return api.Val{Kind: api.KText, S: strings.ReplaceAll(s[1:len(s)-1], "''", "'")}
	}
	x, _ := Parse(s)
	return Value(x)
}
