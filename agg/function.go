package agg

import (
	"maps"

	"tesseract/api"
	"tesseract/exact"
)

// function is an aggregate function with what it needs to know of the values that were added to it. A value is added, and then counted.
type function interface {
	add(v api.Val)    // v is not missing, and a number if the function needs numbers
	one()             // counts a value
	isEmpty() bool    // whether there are no values
	ofNone() api.Val  // the result, if there are none
	result() api.Val  // the result, if there are some
	copied() function // an independent function with the same values
}

// functionOf returns an aggregate function without values, and nil for a number that is not one of a function.
func functionOf(fn int) function {
	switch fn {
	case api.Count:
		return &counted{}
	case api.Sum:
		return &summed{}
	case api.Avg:
		return &averaged{}
	case api.Min:
		return &least{}
	case api.Max:
		return &greatest{}
	case api.Var:
		return &variance{}
	case api.Distinct:
		return &distinct{different: map[api.Val]bool{}}
	}
	return nil
}

// needsNumbers reports whether the values of a function are numbers.
func needsNumbers(f function) bool {
	switch f.(type) {
	case *summed, *averaged, *variance:
		return true
	}
	return false
}

// merged adds the values of g to f, and reports whether both are the same function; otherwise nothing changes. They may be one and the same.
func merged(f, g function) bool {
	switch x := f.(type) {
	case *counted:
		if y, ok := g.(*counted); ok {
			x.addCount(y.count)
			return true
		}
	case *summed:
		if y, ok := g.(*summed); ok {
			x.addSum(*y)
			return true
		}
	case *averaged:
		if y, ok := g.(*averaged); ok {
			x.addSum(y.summed)
			return true
		}
	case *variance:
		if y, ok := g.(*variance); ok {
			x.addSum(y.summed)
			x.squares.merge(y.squares)
			return true
		}
	case *least:
		if y, ok := g.(*least); ok {
			x.addEnd(y.end, -1)
			return true
		}
	case *greatest:
		if y, ok := g.(*greatest); ok {
			x.addEnd(y.end, 1)
			return true
		}
	case *distinct:
		if y, ok := g.(*distinct); ok {
			x.addCount(y.count)
			maps.Copy(x.different, y.different)
			return true
		}
	}
	return false
}

// clone returns a copy of what x points to.
func clone[T any](x *T) *T {
	y := *x
	return &y
}

// count is how many values a function has. Each function embeds it. Merging makes it as large as one likes.
type count struct{ number total }

func (c *count) one() { c.number.addWhole(1) }

func (c *count) addCount(d count) { c.number.merge(d.number) }

// isEmpty reports whether nothing was counted: a number that only grows is never 0 again.
func (c *count) isEmpty() bool { return c.number == total{} }

// ofNone is the result of most functions; the others have an ofNone of their own.
func (c *count) ofNone() api.Val { return api.Val{Kind: api.KMissing, N: api.Empty} }

// counted is Count.
type counted struct{ count }

func (f *counted) add(api.Val) {}

func (f *counted) ofNone() api.Val { return integer(0) }

func (f *counted) result() api.Val { return exact.Value(f.number.rat()) }

func (f *counted) copied() function { return clone(f) }

// summed is Sum.
type summed struct {
	count
	sum total
}

func (f *summed) add(v api.Val) { f.sum.add(v) }

func (f *summed) addSum(g summed) {
	f.addCount(g.count)
	f.sum.merge(g.sum)
}

func (f *summed) result() api.Val { return exact.Value(f.sum.rat()) }

func (f *summed) copied() function { return clone(f) }

// share returns a sum divided by the number of the values.
func (f *summed) share(t total) *exact.Rat {
	x, _ := exact.Quo(t.rat(), f.number.rat())
	return x
}

// averaged is Avg.
type averaged struct{ summed }

func (f *averaged) result() api.Val { return exact.Value(f.share(f.sum)) }

func (f *averaged) copied() function { return clone(f) }

// variance is Var.
type variance struct {
	summed
	squares total
}

func (f *variance) add(v api.Val) {
	f.summed.add(v)
	f.squares.addSquare(v)
}

func (f *variance) result() api.Val {
	average := f.share(f.sum)
	return exact.Value(exact.Sub(f.share(f.squares), exact.Mul(average, average)))
}

func (f *variance) copied() function { return clone(f) }

// end is one end of some values in their order: the least one, or the greatest one.
type end struct {
	count
	value api.Val
}

// offer makes v the end if there are no values yet, or if it is on this side of the end: -1 before it, 1 behind it.
func (f *end) offer(v api.Val, side int) {
	if f.isEmpty() || exact.Order(v, f.value) == side {
		f.value = v
	}
}

// addEnd adds the values of which g is the end on this side.
func (f *end) addEnd(g end, side int) {
	if !g.isEmpty() {
		f.offer(g.value, side)
	}
	f.addCount(g.count)
}

func (f *end) result() api.Val { return f.value }

// least is Min.
type least struct{ end }

func (f *least) add(v api.Val) { f.offer(v, -1) }

func (f *least) copied() function { return clone(f) }

// greatest is Max.
type greatest struct{ end }

func (f *greatest) add(v api.Val) { f.offer(v, 1) }

func (f *greatest) copied() function { return clone(f) }

// distinct is Distinct.
type distinct struct {
	count
	different map[api.Val]bool
}

func (f *distinct) add(v api.Val) { f.different[v] = true }

func (f *distinct) ofNone() api.Val { return integer(0) }

func (f *distinct) result() api.Val { return integer(len(f.different)) }

func (f *distinct) copied() function {
	return &distinct{count: f.count, different: maps.Clone(f.different)}
}
