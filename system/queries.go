package system

import (
	"strings"

	"tesseract/api"
	"tesseract/engine"
	"tesseract/matrix"
	"tesseract/query"
)

// The tiles of products and factors, and how many of them are in memory.
const (
	tile   = 4
	memory = 3
)

// queried returns the expression of a query for a database, and the array that it denotes.
func queried(db api.DB, q string) (api.Expr, api.Array, api.Errno) {
	x, _, e := query.Bind(db, q)
	if e != api.OK {
		return api.Expr{}, api.Array{}, e
	}
	a, e := query.Eval(db, x)
	return x, a, e
}

// choose answers a query.
func (s *System) choose(r *request) (string, api.Errno) {
	_, a, e := queried(s.database(), r.query)
	return arrayText(a), e
}

func (s *System) explain(r *request) (string, api.Errno) {
	db := s.database()
	x, _, e := queried(db, r.query)
	if e != api.OK {
		return "", e
	}
	before, e := query.Print(x)
	if e != api.OK {
		return "", e
	}
	plan, steps, e := engine.Plan(db, x)
	if e != api.OK {
		return "", e
	}
	after, e := query.Print(plan)
	var rules []string
	for _, step := range steps {
		rules = append(rules, step.Rule)
	}
	if len(rules) == 0 {
		rules = []string{none}
	}
	return lines([]string{before, after, strings.Join(rules, " ")}), e
}

// planned returns the plan of a query for a database.
func planned(db api.DB, q string) (api.Expr, api.Errno) {
	x, _, e := queried(db, q)
	if e != api.OK {
		return api.Expr{}, e
	}
	plan, _, e := engine.Plan(db, x)
	return plan, e
}

func (s *System) stats(r *request) (string, api.Errno) {
	db := s.database()
	plan, e := planned(db, r.query)
	if e != api.OK {
		return "", e
	}
	store := engine.New()
	for k, x := range db {
		if e := store.Put(x.Name, x.Array, s.arrays[k].layout); e != api.OK {
			return "", e
		}
	}
	_, n, e := store.Run(plan, r.lists[0])
	return counted("boxes", n.Boxes) + " " + counted("chunks", n.Chunks), e
}

func (s *System) needs(r *request) (string, api.Errno) {
	db := s.database()
	x, _, e := queried(db, r.query)
	if e != api.OK {
		return "", e
	}
	l, e := engine.Needs(db, x, r.box)
	var out []string
	for _, n := range l {
		out = append(out, n.Name+" "+boxText(n.Box))
	}
	return lines(out), e
}

func (s *System) lineage(r *request) (string, api.Errno) {
	db := s.database()
	x, _, e := queried(db, r.query)
	if e != api.OK {
		return "", e
	}
	l, e := Lineage(db, x, r.lists[0])
	var out []string
	for _, source := range l {
		out = append(out, source.Name+" "+joined(source.At, ", "))
	}
	return lines(out), e
}

func (s *System) impact(r *request) (string, api.Errno) {
	db := s.database()
	x, _, e := queried(db, r.query)
	if e != api.OK {
		return "", e
	}
	l, e := Impact(db, x, r.words[0], r.lists[0])
	var out []string
	for _, at := range l {
		out = append(out, joined(at, ", "))
	}
	return lines(out), e
}

func (s *System) mul(r *request) (string, api.Errno) {
	a, _, e := matrix.Mul(r.arrays[0].shown(), r.arrays[1].shown(), tile, memory)
	return arrayText(a), e
}

func (s *System) solve(r *request) (string, api.Errno) {
	a, e := matrix.Solve(r.arrays[0].shown(), r.arrays[1].shown())
	return arrayText(a), e
}

func (s *System) det(r *request) (string, api.Errno) {
	f, _, e := matrix.Factor(r.arrays[0].shown(), tile, memory)
	return valueText(f.Det), e
}
