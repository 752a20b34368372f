package query

import (
	"slices"

	"tesseract/api"
)

// scalar takes a scalar. All names in it become attributes.
func (p *parser) scalar() api.Scalar { return p.chain(p.either, "else") }

// either takes a part of a scalar, and so do the following functions.
func (p *parser) either() api.Scalar { return p.chain(p.both, "or") }

func (p *parser) both() api.Scalar { return p.chain(p.negation, "and") }

func (p *parser) negation() api.Scalar {
	if p.takes("not") {
		return joined(api.SNot, p.negation())
	}
	return p.comparison()
}

func (p *parser) comparison() api.Scalar {
	out := p.sum()
	if op := operator(p.next.text); p.next.kind == fixedToken && op >= api.SEq && op <= api.SGe {
		p.advance()
		return joined(op, out, p.sum())
	}
	return out
}

func (p *parser) sum() api.Scalar { return p.chain(p.product, "+", "-") }

func (p *parser) product() api.Scalar { return p.chain(p.factor, "*", "/") }

func (p *parser) factor() api.Scalar {
	if p.takes("-") {
		return joined(api.SNeg, p.factor())
	}
	return p.primary()
}

func (p *parser) primary() api.Scalar {
	switch p.next.kind {
	case nameToken:
		return api.Scalar{Op: api.SAttr, Name: p.advance().text}
	case numberToken, textToken:
		return constant(p.advance().val)
	}
	switch {
	case p.takes("true"):
		return constant(api.Val{Kind: api.KBool, N: 1})
	case p.takes("false"):
		return constant(api.Val{Kind: api.KBool})
	case p.takes("("):
		out := p.scalar()
		p.expect(")")
		return out
	case p.is("floor"), p.is("missing"), p.is("reason"):
		return p.call(1)
	case p.is("if"):
		return p.call(3)
	}
	panic(p.fault())
}

// call takes an operation that stands in front of its operands, of which there are n.
func (p *parser) call(n int) api.Scalar {
	out := api.Scalar{Op: operator(p.advance().text)}
	p.expect("(")
	for k := range n {
		if k > 0 {
			p.expect(",")
		}
		out.Args = append(out.Args, p.scalar())
	}
	p.expect(")")
	return out
}

// chain takes operands with some operations between them, and joins them from the left.
func (p *parser) chain(operand func() api.Scalar, between ...string) api.Scalar {
	out := operand()
	for p.next.kind == fixedToken && slices.Contains(between, p.next.text) {
		op := operator(p.advance().text)
		out = joined(op, out, operand())
	}
	return out
}

// joined returns the scalar of an operation with operands.
func joined(op int, args ...api.Scalar) api.Scalar { return api.Scalar{Op: op, Args: args} }

// constant returns the scalar of a value.
func constant(v api.Val) api.Scalar { return api.Scalar{Op: api.SConst, Val: v} }

// resolved returns a scalar of a query, in which the names of some dimensions become dimensions.
func resolved(s api.Scalar, d []api.Dim) api.Scalar {
	out := api.Scalar{Op: s.Op, Name: s.Name, Val: s.Val}
	if s.Op == api.SAttr && slices.ContainsFunc(d, func(x api.Dim) bool { return x.Name == s.Name }) {
		out.Op = api.SDim
	}
	for _, x := range s.Args {
		out.Args = append(out.Args, resolved(x, d))
	}
	return out
}
