package query

import (
	"tesseract/agg"
	"tesseract/algebra"
	"tesseract/api"
	"tesseract/space"
)

// Eval returns the array that an expression denotes.
func Eval(db api.DB, e api.Expr) (api.Array, api.Errno) {
	if space.Database(db) != api.OK {
		return api.Array{}, api.ErrArg
	}
	if f := Check(e); f != api.OK {
		return api.Array{}, f
	}
	return evaluated(operations(db), e)
}

// Schema returns the schema of the array that an expression denotes, as an array without cells.
func Schema(db api.DB, e api.Expr) (api.Array, api.Errno) {
	if space.Database(db) != api.OK {
		return api.Array{}, api.ErrArg
	}
	return Eval(emptied(db), e)
}

// emptied returns a database without the cells of its arrays. It shares memory with the database.
func emptied(db api.DB) api.DB {
	out := make(api.DB, len(db))
	for k, x := range db {
		out[k] = api.Named{Name: x.Name, Array: api.Array{Dims: x.Array.Dims, Attrs: x.Array.Attrs}}
	}
	return out
}

// operation returns the array of a node, for the arrays of its operands.
type operation func(e api.Expr, l []api.Array) (api.Array, api.Errno)

// evaluated returns the array that a well-formed expression denotes.
func evaluated(by map[int]operation, e api.Expr) (api.Array, api.Errno) {
	l := make([]api.Array, len(e.Args))
	for k, x := range e.Args {
		a, f := evaluated(by, x)
		if f != api.OK {
			return api.Array{}, f
		}
		l[k] = a
	}
	return by[e.Op](e, l)
}

// operations returns what the nodes of each operation evaluate to, for a valid database.
func operations(db api.DB) map[int]operation {
	return map[int]operation{
		api.EScan:    func(e api.Expr, l []api.Array) (api.Array, api.Errno) { return scanned(db, e.Name) },
		api.ESub:     func(e api.Expr, l []api.Array) (api.Array, api.Errno) { return algebra.Subarray(l[0], e.Lo, e.Hi) },
		api.EFilter:  func(e api.Expr, l []api.Array) (api.Array, api.Errno) { return algebra.Filter(l[0], e.By) },
		api.EApply:   func(e api.Expr, l []api.Array) (api.Array, api.Errno) { return algebra.Apply(l[0], e.Name, e.By) },
		api.EProject: func(e api.Expr, l []api.Array) (api.Array, api.Errno) { return algebra.Project(l[0], e.Names) },
		api.ERename: func(e api.Expr, l []api.Array) (api.Array, api.Errno) {
			return algebra.Rename(l[0], e.Names[0], e.Names[1])
		},
		api.EReshape:   func(e api.Expr, l []api.Array) (api.Array, api.Errno) { return algebra.Reshape(l[0], e.Dims) },
		api.ETranspose: func(e api.Expr, l []api.Array) (api.Array, api.Errno) { return algebra.Transpose(l[0], e.Names) },
		api.EConcat:    func(e api.Expr, l []api.Array) (api.Array, api.Errno) { return algebra.Concat(l[0], l[1], e.Name) },
		api.EJoin:      func(e api.Expr, l []api.Array) (api.Array, api.Errno) { return algebra.Join(l[0], l[1]) },
		api.ECross:     func(e api.Expr, l []api.Array) (api.Array, api.Errno) { return algebra.Cross(l[0], l[1]) },
		api.EMerge:     func(e api.Expr, l []api.Array) (api.Array, api.Errno) { return algebra.Merge(l[0], l[1]) },
		api.ERedim: func(e api.Expr, l []api.Array) (api.Array, api.Errno) {
			return algebra.Redim(l[0], e.Dims, e.Names, e.Rule)
		},
		api.EGroup:  func(e api.Expr, l []api.Array) (api.Array, api.Errno) { return agg.Group(l[0], e.Dims, e.Aggs) },
		api.ERegrid: func(e api.Expr, l []api.Array) (api.Array, api.Errno) { return agg.Regrid(l[0], e.Lo, e.Aggs) },
		api.EWindow: func(e api.Expr, l []api.Array) (api.Array, api.Errno) { return agg.Window(l[0], e.Lo, e.Hi, e.Aggs) },
		api.EVary: func(e api.Expr, l []api.Array) (api.Array, api.Errno) {
			return agg.Vary(l[0], e.Name, e.Lo[0], e.Hi[0], e.Aggs)
		},
		api.ECumulate: func(e api.Expr, l []api.Array) (api.Array, api.Errno) { return agg.Cumulate(l[0], e.Name, e.Aggs) },
		api.ERank: func(e api.Expr, l []api.Array) (api.Array, api.Errno) {
			return agg.Rank(l[0], e.Names[0], e.Names[1:], e.Name)
		},
	}
}

// scanned returns the array with a name of a valid database.
// The array is looked for in a database that has it alone, so that the others are not checked again.
func scanned(db api.DB, name string) (api.Array, api.Errno) {
	for k, x := range db {
		if x.Name == name {
			a, _ := space.Find(db[k:k+1], name)
			return a, api.OK
		}
	}
	return api.Array{}, api.ErrNone
}
