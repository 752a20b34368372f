package query

import "tesseract/api"

// selection is a query that is well-formed. A clause that it does not have has no operation.
type selection struct {
	at    int // the offset of its first token
	items []item
	from  []term
	where clause
	shape clause
	order clause
}

// clause is a part of a query that becomes a node: its place, and the node without what comes from elsewhere, such as its operands.
// As long as it is not translated, By has attributes for all names.
type clause struct {
	at   int
	node api.Expr
}

// item is an item of a selection, or its `*`.
type item struct {
	at   int
	all  bool       // whether it is `*`
	name string     // of the attribute that it yields
	agg  api.Agg    // an item with a function
	by   api.Scalar // an item with a scalar, and `as`
}

// term is a term of a source, with the word in front of it.
type term struct {
	link  clause // none for the first term
	scan  clause // a name
	query *selection
	cut   clause // brackets
}

// parser reads a query token by token.
type parser struct {
	tokens <-chan token
	next   token
}

// parsed returns the query of a string. If it is not well-formed, that ends with its fault.
func parsed(s string) selection {
	p := &parser{tokens: tokens(s)}
	defer p.drain()
	p.advance()
	out := p.selection()
	p.expectKind(endToken)
	return out
}

// drain receives the tokens that were not read, so that nothing goes on sending them.
func (p *parser) drain() {
	for range p.tokens {
	}
}

// advance returns the next token, and receives the one behind it, if there is one.
func (p *parser) advance() token {
	out := p.next
	p.next = <-p.tokens
	return out
}

// fault is the fault of a query in which the next token cannot stand there.
func (p *parser) fault() fault { return fault{p.next.at, api.ErrForm} }

// is reports whether the next token is a keyword or a symbol.
func (p *parser) is(s string) bool { return p.next.kind == fixedToken && p.next.text == s }

// takes reports whether the next token is a keyword or a symbol, and then takes it.
func (p *parser) takes(s string) bool {
	if !p.is(s) {
		return false
	}
	p.advance()
	return true
}

// expect takes a keyword or a symbol, and returns its offset.
func (p *parser) expect(s string) int {
	if !p.is(s) {
		panic(p.fault())
	}
	return p.advance().at
}

// expectKind takes a token of a kind.
func (p *parser) expectKind(kind int) token {
	if p.next.kind != kind {
		panic(p.fault())
	}
	return p.advance()
}

// elements takes elements with commas between them.
func elements[E any](p *parser, element func() E) []E {
	out := []E{element()}
	for p.takes(",") {
		out = append(out, element())
	}
	return out
}

// selection takes a query.
func (p *parser) selection() selection {
	out := selection{at: p.expect("select"), items: p.items()}
	p.expect("from")
	out.from = p.source()
	if at := p.next.at; p.takes("where") {
		out.where = clause{at, api.Expr{Op: api.EFilter, By: p.scalar()}}
	}
	out.shape = p.shape()
	if at := p.next.at; p.takes("order") {
		p.expect("(")
		out.order = clause{at, api.Expr{Op: api.ETranspose, Names: elements(p, p.name)}}
		p.expect(")")
	}
	return out
}

// items takes the items of a query.
func (p *parser) items() []item {
	if at := p.next.at; p.takes("*") {
		return []item{{at: at, all: true}}
	}
	return elements(p, p.item)
}

// item takes an item.
func (p *parser) item() item {
	first := p.next
	if first.kind == fixedToken && functionOf(first.text) != 0 {
		return p.aggregate()
	}
	by := p.scalar()
	if first.kind == nameToken && by.Op == api.SAttr && !p.is("as") {
		return item{at: first.at, name: first.text}
	}
	p.expect("as")
	return item{at: first.at, name: p.name(), by: by}
}

// aggregate takes an item with a function.
func (p *parser) aggregate() item {
	first := p.advance()
	out := api.Agg{Fn: functionOf(first.text)}
	p.expect("(")
	if out.Fn != api.Count || !p.is(")") {
		out.Attr = p.name()
	}
	p.expect(")")
	p.expect("as")
	out.As = p.name()
	return item{at: first.at, name: out.As, agg: out}
}

// source takes the terms of a query, with the words between them.
func (p *parser) source() []term {
	out := []term{p.term()}
	for {
		link := clause{at: p.next.at}
		switch {
		case p.takes("join"):
			link.node.Op = api.EJoin
		case p.takes("cross"):
			link.node.Op = api.ECross
		case p.takes("merge"):
			link.node.Op = api.EMerge
		case p.takes("concat"):
			link.node.Op = api.EConcat
		default:
			return out
		}
		x := p.term()
		if link.node.Op == api.EConcat {
			p.expect("on")
			link.node.Name = p.name()
		}
		x.link = link
		out = append(out, x)
	}
}

// term takes a term.
func (p *parser) term() term {
	var out term
	at := p.next.at
	if p.takes("(") {
		q := p.selection()
		p.expect(")")
		out.query = &q
	} else {
		out.scan = clause{at, api.Expr{Op: api.EScan, Name: p.name()}}
	}
	if at := p.next.at; p.takes("[") {
		lo, hi := bounds(elements(p, p.between))
		out.cut = clause{at, api.Expr{Op: api.ESub, Lo: lo, Hi: hi}}
		p.expect("]")
	}
	return out
}

// between takes a range, whose bounds may be missing.
func (p *parser) between() pair {
	out := pair{-api.MaxCoord, api.Open}
	if !p.is(":") {
		out.lo = p.integer()
	}
	p.expect(":")
	if p.is("-") || p.next.kind == numberToken {
		out.hi = p.integer()
	}
	return out
}

// shape takes the shape of a query, if it has one.
func (p *parser) shape() clause {
	at := p.next.at
	switch {
	case p.takes("group"):
		p.expect("by")
		return clause{at, api.Expr{Op: api.EGroup, Dims: elements(p, p.dim)}}
	case p.takes("regrid"):
		p.expect("by")
		return clause{at, api.Expr{Op: api.ERegrid, Lo: elements(p, p.number)}}
	case p.takes("window"):
		lo, hi := bounds(elements(p, p.reach))
		return clause{at, api.Expr{Op: api.EWindow, Lo: lo, Hi: hi}}
	case p.takes("vary"):
		along := p.name()
		lo, hi := bounds([]pair{p.reach()})
		return clause{at, api.Expr{Op: api.EVary, Name: along, Lo: lo, Hi: hi}}
	case p.takes("along"):
		return clause{at, api.Expr{Op: api.ECumulate, Name: p.name()}}
	case p.takes("rank"):
		return clause{at, p.rank()}
	}
	return clause{}
}

// rank takes what stands behind `rank`.
func (p *parser) rank() api.Expr {
	of := []string{p.name()}
	if p.takes("in") {
		of = append(of, elements(p, p.name)...)
	}
	p.expect("as")
	return api.Expr{Op: api.ERank, Name: p.name(), Names: of}
}

// reach takes two numbers.
func (p *parser) reach() pair {
	lo := p.number()
	return pair{lo, p.number()}
}

// dim takes a dimension.
func (p *parser) dim() api.Dim {
	out := api.Dim{Name: p.name(), Lo: p.integer(), Hi: api.Open}
	p.expect(":")
	if !p.takes("*") {
		out.Hi = p.integer()
	}
	return out
}

// name takes a name.
func (p *parser) name() string { return p.expectKind(nameToken).text }

// number takes a number.
func (p *parser) number() int { return int(p.expectKind(numberToken).val.N) }

// integer takes a number with or without a minus sign.
func (p *parser) integer() int {
	if p.takes("-") {
		return -p.number()
	}
	return p.number()
}
