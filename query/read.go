package query

import (
	"strconv"
	"strings"

	"tesseract/api"
	"tesseract/exact"
)

// Read returns the expression of a string.
// A string is that of an expression if it is found again from the expression that it seems to denote.
func Read(s string) (api.Expr, api.Errno) {
	if len(s) > api.MaxLine {
		return api.Expr{}, api.ErrLong
	}
	r := reader{rest: s}
	var e api.Expr
	if f := faultOf(func() { e = r.expr() }); f.code != api.OK {
		return api.Expr{}, f.code
	}
	if again, f := Print(e); f != api.OK || again != s {
		return api.Expr{}, api.ErrForm
	}
	return e, api.OK
}

// ReadScalar returns the scalar of a string. It is found like an expression.
func ReadScalar(s string) (api.Scalar, api.Errno) {
	if len(s) > api.MaxLine {
		return api.Scalar{}, api.ErrLong
	}
	r := reader{rest: s}
	var x api.Scalar
	if f := faultOf(func() { x = r.scalar() }); f.code != api.OK {
		return api.Scalar{}, f.code
	}
	if again, f := PrintScalar(x); f != api.OK || again != s {
		return api.Scalar{}, api.ErrForm
	}
	return x, api.OK
}

// reader reads a string that Print or PrintScalar may have returned. It reads others, too: what it has read is compared with the string afterwards.
type reader struct{ rest string }

// fail ends reading.
func (r *reader) fail() { panic(fault{code: api.ErrForm}) }

// takes reports whether the rest begins with a string, and then takes it.
func (r *reader) takes(s string) bool {
	rest, is := strings.CutPrefix(r.rest, s)
	r.rest = rest
	return is
}

// expect takes a string, with which the rest has to begin.
func (r *reader) expect(s string) {
	if !r.takes(s) {
		r.fail()
	}
}

// first takes the first n bytes of the rest.
func (r *reader) first(n int) string {
	out := r.rest[:n]
	r.rest = r.rest[n:]
	return out
}

// run takes all bytes at the beginning of the rest that belong to a set.
func (r *reader) run(belongs func(byte) bool) string { return r.first(runSize(r.rest, belongs)) }

// word takes a name, or another word. It can be empty.
func (r *reader) word() string { return r.run(isWordByte) }

// integer takes an integer.
func (r *reader) integer() int {
	x, err := strconv.Atoi(r.run(func(c byte) bool { return isDigit(c) || c == '-' }))
	if err != nil {
		r.fail()
	}
	return x
}

// pair takes a pair.
func (r *reader) pair() pair {
	lo := r.integer()
	r.expect(":")
	if r.takes("*") {
		return pair{lo, api.Open}
	}
	return pair{lo, r.integer()}
}

// dim takes a dimension.
func (r *reader) dim() api.Dim {
	name := r.word()
	r.expect(" ")
	x := r.pair()
	return api.Dim{Name: name, Lo: x.lo, Hi: x.hi}
}

// agg takes an aggregate.
func (r *reader) agg() api.Agg {
	fn := functionOf(r.word())
	r.expect("(")
	attr := r.word()
	r.expect(") as ")
	return api.Agg{Fn: fn, Attr: attr, As: r.word()}
}

// rule takes the rule of a redimension.
func (r *reader) rule() int {
	word := r.word()
	for n := api.Fail; n <= api.Last; n++ {
		if rules[n] == word {
			return n
		}
	}
	return 0
}

// separated takes elements that are separated as in a string.
func separated[E any](r *reader, element func() E) []E {
	out := []E{element()}
	for r.takes(", ") {
		out = append(out, element())
	}
	return out
}

// expr takes an expression.
func (r *reader) expr() api.Expr {
	word := r.word()
	if !r.takes("(") {
		return api.Expr{Op: api.EScan, Name: word}
	}
	e := api.Expr{Op: r.operation(word)}
	e.Args = separated(r, r.expr)
	if kinds[e.Op].text != "" {
		r.expect("; ")
	}
	for _, letter := range kinds[e.Op].text {
		r.field(&e, letter)
	}
	r.expect(")")
	return e
}

// operation returns the operation that has operands, and this word in front of them.
func (r *reader) operation(word string) int {
	op := api.ESub
	for kinds[op].word != word {
		if op == api.ERank {
			r.fail()
		}
		op++
	}
	return op
}

// field takes a field of a node, or a byte that stands for itself.
func (r *reader) field(e *api.Expr, letter rune) {
	switch letter {
	case nameField:
		e.Name = r.word()
	case namesField:
		e.Names = separated(r, r.word)
	case rangeField, boxField:
		e.Lo, e.Hi = bounds(separated(r, r.pair))
	case integersField:
		e.Lo = separated(r, r.integer)
	case dimsField:
		e.Dims = separated(r, r.dim)
	case scalarField:
		e.By = r.scalar()
	case aggsField:
		e.Aggs = separated(r, r.agg)
	case ruleField:
		e.Rule = r.rule()
	default:
		r.expect(string(letter))
	}
}

// scalar takes a scalar.
func (r *reader) scalar() api.Scalar {
	switch {
	case r.takes("."):
		return api.Scalar{Op: api.SAttr, Name: r.word()}
	case r.takes("@"):
		return api.Scalar{Op: api.SDim, Name: r.word()}
	case r.takes("("):
		return r.infix()
	case strings.HasPrefix(r.rest, "'"):
		return r.constant(r.first(textSize(r.rest)))
	}
	if number := r.run(isNumberByte); number != "" {
		return r.constant(number)
	}
	word := r.word()
	if !r.takes("(") {
		return r.constant(word)
	}
	args := separated(r, r.scalar)
	r.expect(")")
	return api.Scalar{Op: operator(word), Args: args}
}

// infix takes two operands and the operation between them, behind a parenthesis.
func (r *reader) infix() api.Scalar {
	left := r.scalar()
	r.expect(" ")
	word := r.run(func(c byte) bool { return c != ' ' })
	r.expect(" ")
	right := r.scalar()
	r.expect(")")
	return api.Scalar{Op: operator(word), Args: []api.Scalar{left, right}}
}

// constant returns the scalar with the value of a string.
func (r *reader) constant(s string) api.Scalar {
	v, e := exact.Read(s)
	if e != api.OK {
		r.fail()
	}
	return api.Scalar{Op: api.SConst, Val: v}
}

// operator returns the operation of scalars with a word or a symbol, and 0 if there is none.
func operator(word string) int {
	for op := api.SNot; op <= api.SIf; op++ {
		if words[op] == word {
			return op
		}
	}
	return 0
}

// isNumberByte reports whether a byte can be one of the string of a number.
func isNumberByte(c byte) bool { return isDigit(c) || c == '-' || c == '/' }
