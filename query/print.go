package query

import (
	"strconv"
	"strings"

	"tesseract/api"
	"tesseract/exact"
)

// words are the words and symbols of the operations of scalars that have operands, by their numbers.
var words = [...]string{
	api.SNot:     "not",
	api.SNeg:     "neg",
	api.SFloor:   "floor",
	api.SMissing: "missing",
	api.SReason:  "reason",
	api.SAdd:     "+",
	api.SSub:     "-",
	api.SMul:     "*",
	api.SDiv:     "/",
	api.SEq:      "=",
	api.SNe:      "!=",
	api.SLt:      "<",
	api.SLe:      "<=",
	api.SGt:      ">",
	api.SGe:      ">=",
	api.SAnd:     "and",
	api.SOr:      "or",
	api.SElse:    "else",
	api.SIf:      "if",
}

// functions are the words of the aggregate functions, by their numbers.
var functions = [...]string{
	api.Count:    "count",
	api.Sum:      "sum",
	api.Avg:      "avg",
	api.Min:      "min",
	api.Max:      "max",
	api.Var:      "var",
	api.Distinct: "distinct",
}

// rules are the words of the rules of redimensions, by their numbers.
var rules = [...]string{api.Fail: "fail", api.First: "first", api.Last: "last"}

// functionOf returns the aggregate function with a word, and 0 if there is none.
func functionOf(word string) int {
	for fn := api.Count; fn <= api.Distinct; fn++ {
		if functions[fn] == word {
			return fn
		}
	}
	return 0
}

// Print returns the string of an expression.
func Print(e api.Expr) (string, api.Errno) {
	if f := Check(e); f != api.OK {
		return "", f
	}
	return notLong(printed(e))
}

// PrintScalar returns the string of a scalar.
func PrintScalar(s api.Scalar) (string, api.Errno) {
	if !isNamed(s) {
		return "", api.ErrArg
	}
	return notLong(printedScalar(s))
}

// notLong returns ErrLong if a string is too long, and otherwise the string.
func notLong(s string) (string, api.Errno) {
	if len(s) > api.MaxLine {
		return "", api.ErrLong
	}
	return s, api.OK
}

// printed returns the string of a well-formed expression.
func printed(e api.Expr) string {
	if e.Op == api.EScan {
		return e.Name
	}
	out := kinds[e.Op].word + "(" + listed(e.Args, printed)
	if kinds[e.Op].text != "" {
		out += "; "
	}
	for _, letter := range kinds[e.Op].text {
		out += printedField(e, letter)
	}
	return out + ")"
}

// printedField returns the string of a field of a node, or of a byte that stands for itself.
func printedField(e api.Expr, letter rune) string {
	switch letter {
	case nameField:
		return e.Name
	case namesField:
		return strings.Join(e.Names, ", ")
	case rangeField, boxField:
		return listed(pairs(e.Lo, e.Hi), printedPair)
	case integersField:
		return listed(e.Lo, strconv.Itoa)
	case dimsField:
		return listed(e.Dims, func(d api.Dim) string { return d.Name + " " + printedPair(pair{d.Lo, d.Hi}) })
	case scalarField:
		return printedScalar(e.By)
	case aggsField:
		return listed(e.Aggs, func(a api.Agg) string { return functions[a.Fn] + "(" + a.Attr + ") as " + a.As })
	case ruleField:
		return rules[e.Rule]
	}
	return string(letter)
}

// listed returns the strings of the elements of a list, separated.
func listed[E any](l []E, text func(E) string) string {
	out := make([]string, len(l))
	for k, x := range l {
		out[k] = text(x)
	}
	return strings.Join(out, ", ")
}

// pair is an element of Lo, and the one of Hi that belongs to it.
type pair struct{ lo, hi int }

// pairs returns the pairs of Lo and Hi.
func pairs(lo, hi []int) []pair {
	out := make([]pair, len(lo))
	for k := range lo {
		out[k] = pair{lo[k], hi[k]}
	}
	return out
}

// bounds returns the Lo and the Hi of pairs.
func bounds(l []pair) (lo, hi []int) {
	for _, x := range l {
		lo = append(lo, x.lo)
		hi = append(hi, x.hi)
	}
	return lo, hi
}

// printedPair returns the string of a pair.
func printedPair(x pair) string {
	if x.hi == api.Open {
		return strconv.Itoa(x.lo) + ":*"
	}
	return strconv.Itoa(x.lo) + ":" + strconv.Itoa(x.hi)
}

// printedScalar returns the string of a well-formed scalar.
func printedScalar(s api.Scalar) string {
	switch {
	case s.Op == api.SConst:
		out, _ := exact.Print(s.Val)
		return out
	case s.Op == api.SAttr:
		return "." + s.Name
	case s.Op == api.SDim:
		return "@" + s.Name
	case len(s.Args) == 2:
		return "(" + printedScalar(s.Args[0]) + " " + words[s.Op] + " " + printedScalar(s.Args[1]) + ")"
	}
	return words[s.Op] + "(" + listed(s.Args, printedScalar) + ")"
}
