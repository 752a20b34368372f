package matrix

import (
	"tesseract/api"
	"tesseract/exact"
)

// symmetric returns the entries of a symmetric matrix, or the error of Order.
func symmetric(a api.Array) (numbers, api.Errno) {
	x, e := entries(a)
	switch {
	case e != api.OK:
		return numbers{}, e
	case !x.isSquare():
		return numbers{}, api.ErrShape
	case !x.isSymmetric():
		return numbers{}, api.ErrArg
	}
	return x, api.OK
}

// symmetricInOrder returns the entries of a symmetric matrix whose order is that of a list of its nodes, or the error of Fill.
func symmetricInOrder(a api.Array, order []int) (numbers, api.Errno) {
	x, e := symmetric(a)
	if e != api.OK {
		return numbers{}, e
	}
	if !isOrder(order, x.rows) {
		return numbers{}, api.ErrArg
	}
	return x, api.OK
}

// Order returns an order in which few entries become other than 0.
func Order(a api.Array) ([]int, api.Errno) {
	x, e := symmetric(a)
	if e != api.OK {
		return nil, e
	}
	g := graphOf(x)
	var out []int
	for range x.rows {
		node := g.least()
		g.eliminate(node)
		out = append(out, node)
	}
	return out, api.OK
}

// Fill returns how many entries become other than 0 in an order.
func Fill(a api.Array, order []int) (int, api.Errno) {
	x, e := symmetricInOrder(a, order)
	if e != api.OK {
		return 0, e
	}
	g := graphOf(x)
	fill := 0
	for _, node := range order {
		fill += g.eliminate(node)
	}
	return fill, api.OK
}

// Ldl returns the factors of a symmetric matrix in an order.
func Ldl(a api.Array, order []int) (api.Array, api.Array, api.Errno) {
	x, e := symmetricInOrder(a, order)
	if e != api.OK {
		return api.Array{}, api.Array{}, e
	}
	both := numbersOf(x.rows, x.cols, func(i, j int) *exact.Rat { return x.at(order[i], order[j]) })
	for p := range both.rows {
		if both.at(p, p).Sign() == 0 {
			return api.Array{}, api.Array{}, api.ErrSingular
		}
		both.eliminate(p)
	}
	return normalOfBoth(both.lower(), both.diagonal())
}
