package query

import (
	"tesseract/api"
	"tesseract/space"
)

// Bind translates a query to an expression.
func Bind(db api.DB, s string) (api.Expr, int, api.Errno) {
	if space.Database(db) != api.OK {
		return api.Expr{}, 0, api.ErrArg
	}
	if len(s) > api.MaxLine {
		return api.Expr{}, 0, api.ErrLong
	}
	t := translator{db: emptied(db)}
	var out api.Expr
	if f := faultOf(func() { out = t.selection(parsed(s)) }); f.code != api.OK {
		return api.Expr{}, f.at, f.code
	}
	return out, 0, api.OK
}

// translator makes expressions of queries, for a database without cells. An error ends it with a fault.
type translator struct{ db api.DB }

// step returns the node of a clause with its operands, which must have a schema.
func (t translator) step(c clause, operands ...api.Expr) api.Expr {
	out := c.node
	out.Args = operands
	if _, e := Schema(t.db, out); e != api.OK {
		panic(fault{c.at, e})
	}
	return out
}

// scalarStep is step for a node with a scalar, which is resolved for its operand.
func (t translator) scalarStep(c clause, operand api.Expr) api.Expr {
	a, _ := Schema(t.db, operand) // it has one, as it comes from a step
	c.node.By = resolved(c.node.By, a.Dims)
	return t.step(c, operand)
}

// selection translates a query.
func (t translator) selection(q selection) api.Expr {
	out := t.source(q.from)
	if q.where.node.Op != 0 {
		out = t.scalarStep(q.where, out)
	}
	if q.shape.node.Op != 0 && q.shape.node.Op != api.ERank {
		out = t.aggregated(q, out)
	} else {
		out = t.chosen(q, out)
	}
	if q.order.node.Op != 0 {
		out = t.step(q.order, out)
	}
	return out
}

// source translates the terms of a query.
func (t translator) source(l []term) api.Expr {
	out := t.term(l[0])
	for _, x := range l[1:] {
		out = t.step(x.link, out, t.term(x))
	}
	return out
}

// term translates a term.
func (t translator) term(x term) api.Expr {
	var out api.Expr
	if x.query != nil {
		out = t.selection(*x.query)
	} else {
		out = t.step(x.scan)
	}
	if x.cut.node.Op != 0 {
		out = t.step(x.cut, out)
	}
	return out
}

// aggregated translates the items and the shape of a query, if the shape aggregates.
func (t translator) aggregated(q selection, operand api.Expr) api.Expr {
	c := q.shape
	for _, x := range q.items {
		if x.agg.Fn == 0 {
			panic(fault{x.at, api.ErrForm})
		}
		c.node.Aggs = append(c.node.Aggs, x.agg)
	}
	return t.step(c, operand)
}

// chosen translates the items of a query whose shape, if it has one, is a rank.
func (t translator) chosen(q selection, operand api.Expr) api.Expr {
	for _, x := range q.items {
		if x.agg.Fn != 0 {
			panic(fault{x.at, api.ErrForm})
		}
	}
	out := operand
	if q.shape.node.Op != 0 {
		out = t.step(q.shape, out)
	}
	if q.items[0].all {
		return out
	}
	var names []string
	for _, x := range q.items {
		if x.by.Op != 0 {
			out = t.scalarStep(clause{x.at, api.Expr{Op: api.EApply, Name: x.name, By: x.by}}, out)
		}
		names = append(names, x.name)
	}
	return t.step(clause{q.at, api.Expr{Op: api.EProject, Names: names}}, out)
}
