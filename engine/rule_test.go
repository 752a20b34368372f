package engine_test

import (
	"slices"
	"strconv"
	"strings"
	"testing"

	"tesseract/algebra"
	"tesseract/api"
	"tesseract/engine"
	"tesseract/query"
	"tesseract/space"
)

// ruleNames are the names of the rules, in the order of the chapter.
func ruleNames() []string {
	return strings.Fields(`sub-sub sub-whole sub-filter sub-apply sub-project sub-rename sub-transpose sub-merge sub-join sub-cross
		sub-regrid sub-window sub-vary sub-cumulate sub-group sub-redim filter-true filter-filter filter-apply filter-project filter-rename
		filter-transpose filter-join filter-cross filter-concat project-project project-apply project-all transpose-transpose transpose-same
		merge-same regrid-regrid`)
}

// P7.2

func TestRules(t *testing.T) {
	l := engine.Rules()
	if !slices.Equal(l, ruleNames()) || len(l) != 32 {
		t.Error(l)
	}
	l[0] = "spoiled"
	if !slices.Equal(engine.Rules(), ruleNames()) {
		t.Error("the names share memory")
	}
}

// rewritings are rules, expressions, and what the rules make of them; an empty string if they cannot be applied.
func rewritings() [][3]string {
	return [][3]string{
		// the examples of the chapter
		{"sub-filter", "sub(filter(t; (.v > 2)); 0:0, 0:1)", "filter(sub(t; 0:0, 0:1); (.v > 2))"},
		{"sub-sub", "sub(filter(t; (.v > 2)); 0:0, 0:1)", ""},
		{"sub-window", "sub(window(t; 1:0, 0:0; sum(v) as s); 3:3, 0:1)", "sub(window(sub(t; 2:3, 0:1); 1:0, 0:0; sum(v) as s); 3:3, 0:1)"},
		{"regrid-regrid", "regrid(regrid(t; 2, 1; count() as n); 2, 2; sum(n) as m)", "regrid(t; 4, 2; count() as m)"},
		// the first sub is the inner one
		{"sub-sub", "sub(sub(t; 1:9, -4:0); 0:2, 0:5)", "sub(t; 1:2, 0:0)"},
		{"sub-sub", "sub(sub(o; -9:*); 3:*)", "sub(o; 3:*)"},
		{"sub-sub", "sub(sub(o; -9:1073741830); 3:1073741829)", "sub(o; 3:1073741829)"},
		{"sub-sub", "sub(sub(o; -9:7); 3:*)", "sub(o; 3:7)"},
		{"sub-sub", "sub(t; 0:1, 0:1)", ""},
		{"sub-whole", "sub(t; 0:3, 0:1)", "t"},
		{"sub-whole", "sub(t; -5:9, -5:*)", "t"},
		{"sub-whole", "sub(t; 0:3, 1:1)", ""},
		{"sub-whole", "sub(t; 1:3, 0:1)", ""},
		{"sub-whole", "sub(o; -4:*)", "o"},
		{"sub-whole", "sub(o; -4:1073741899)", "o"},
		{"sub-whole", "sub(o; -4:1073741824)", ""},
		{"sub-whole", "sub(sub(t; 1:2, 0:0); 0:3, 0:1)", "sub(t; 1:2, 0:0)"},
		{"sub-apply", "sub(apply(t; w = @x); 0:0, 0:1)", "apply(sub(t; 0:0, 0:1); w = @x)"},
		{"sub-project", "sub(project(t; v); 0:0, 0:1)", "project(sub(t; 0:0, 0:1); v)"},
		{"sub-rename", "sub(rename(t; x, a); 0:0, 1:5)", "rename(sub(t; 0:0, 1:5); x, a)"},
		{"sub-rename", "sub(rename(t; v, a); 0:0, 1:5)", "rename(sub(t; 0:0, 1:5); v, a)"},
		{"sub-rename", "sub(rename(rename(rename(t; x, a); y, x); a, y); 1:3, 0:0)", "rename(sub(rename(rename(t; x, a); y, x); 1:3, 0:0); a, y)"},
		{"sub-transpose", "sub(transpose(t; y, x); 0:0, 1:3)", "transpose(sub(t; 1:3, 0:0); y, x)"},
		{"sub-transpose", "sub(transpose(cross(t, o); p, x, y); -7:*, 1:3, 0:9)", "transpose(sub(cross(t, o); 1:3, 0:9, -7:*); p, x, y)"},
		{"sub-merge", "sub(merge(t, t2); 0:1, 0:9)", "merge(sub(t; 0:1, 0:9), sub(t2; 0:1, 0:9))"},
		{"sub-merge", "sub(merge(t, t2); -1:0, 0:9)", "merge(sub(t; -1:0, 0:9), sub(t2; -1:0, 0:9))"},
		{"sub-merge", "sub(merge(t, t2); -2:-1, 0:9)", ""},
		{"sub-merge", "sub(merge(t, t2); 2:3, 0:9)", ""},
		{"sub-join", "sub(join(t, u); 1:2, 0:0)", "join(sub(t; 1:2, 0:0), sub(u; 0:0))"},
		{"sub-join", "sub(join(u, t); 0:*, 1:2)", "join(sub(u; 0:*), sub(t; 1:2, 0:*))"},
		{"sub-join", "sub(join(t, u); 1:2, -1:0)", "join(sub(t; 1:2, -1:0), sub(u; -1:0))"},
		{"sub-cross", "sub(cross(t, o); 1:2, 0:0, 3:*)", "cross(sub(t; 1:2, 0:0), sub(o; 3:*))"},
		{"sub-join", "sub(cross(t, o); 1:2, 0:0, 3:*)", ""},
		{"sub-regrid", "sub(regrid(t; 2, 2; count() as n); 1:9, 0:0)", "regrid(sub(t; 2:3, 0:1); 2, 2; count() as n)"},
		{"sub-regrid", "sub(regrid(o; 3; count() as n); -2:0)", "regrid(sub(o; -6:2); 3; count() as n)"},
		{"sub-regrid", "sub(regrid(o; 4; count() as n); 0:268435455)", "regrid(sub(o; 0:1073741823); 4; count() as n)"},
		{"sub-regrid", "sub(regrid(o; 4; count() as n); 0:268435456)", ""},
		{"sub-regrid", "sub(regrid(o; 4; count() as n); 0:*)", "regrid(sub(o; 0:*); 4; count() as n)"},
		{"sub-regrid", "sub(regrid(rename(o; p, q); 1073741824; count() as n); 0:0)", "regrid(sub(rename(o; p, q); 0:1073741823); 1073741824; count() as n)"},
		{"sub-regrid", "sub(regrid(rename(o; p, q); 1073741824; count() as n); 1:1)", ""},
		{"sub-window", "sub(window(t; 0:1, 0:0; sum(v) as s); 1:1, 0:0)", "sub(window(sub(t; 1:2, 0:0); 0:1, 0:0; sum(v) as s); 1:1, 0:0)"},
		{"sub-window", "sub(window(t; 2:1, 1:0; sum(v) as s); 2:2, 1:1)", ""},
		{"sub-window", "sub(window(o; 2:1; sum(n) as s); 1:1073741823)", "sub(window(sub(o; -1:1073741824); 2:1; sum(n) as s); 1:1073741823)"},
		{"sub-window", "sub(window(o; 2:1; sum(n) as s); 1:1073741824)", "sub(window(sub(o; -1:*); 2:1; sum(n) as s); 1:1073741824)"},
		{"sub-window", "sub(window(o; 2:1; sum(n) as s); -2:1073741824)", ""},
		{"sub-window", "sub(window(sub(t; 2:3, 0:1); 1:0, 0:0; sum(v) as s); 3:3, 0:1)", ""}, // it was rewritten already
		{"sub-vary", "sub(vary(t; x 1:1; sum(v) as s); 3:3, 0:0)", "sub(vary(sub(t; 0:3, 0:0); x 1:1; sum(v) as s); 3:3, 0:0)"},
		{"sub-vary", "sub(vary(t; y 1:1; sum(v) as s); 3:3, 0:0)", "sub(vary(sub(t; 3:3, 0:1); y 1:1; sum(v) as s); 3:3, 0:0)"},
		{"sub-vary", "sub(vary(t; x 1:1; sum(v) as s); 3:3, 0:1)", ""},
		{"sub-cumulate", "sub(cumulate(t; x; sum(v) as s); 1:2, 0:1)", "sub(cumulate(sub(t; 0:2, 0:1); x; sum(v) as s); 1:2, 0:1)"},
		{"sub-cumulate", "sub(cumulate(t; x; sum(v) as s); 1:3, 1:1)", "sub(cumulate(sub(t; 0:3, 1:1); x; sum(v) as s); 1:3, 1:1)"},
		{"sub-cumulate", "sub(cumulate(t; x; sum(v) as s); 1:3, 0:1)", ""},
		{"sub-window", "sub(cumulate(t; x; sum(v) as s); 1:2, 0:1)", ""},
		{"sub-group", "sub(group(t; v 0:9; count() as n); 3:20)", "group(t; v 3:9; count() as n)"},
		{"sub-group", "sub(group(t; v 0:*, x 0:3; count() as n); 3:*, -2:1)", "group(t; v 3:*, x 0:1; count() as n)"},
		{"sub-redim", "sub(redim(t; v 0:9; x; first); 3:20)", "redim(t; v 3:9; x; first)"},
		{"sub-redim", "sub(redim(t; v 0:*; x; last); -3:20)", "redim(t; v 0:20; x; last)"},
		{"sub-redim", "sub(redim(t; v 0:9; x; fail); 3:20)", ""},
		{"filter-true", "filter(t; true)", "t"},
		{"filter-true", "filter(t; false)", ""},
		{"filter-true", "filter(t; (1 = 1))", ""},
		{"filter-filter", "filter(filter(t; (.v > 2)); (@x < 3))", "filter(t; ((.v > 2) and (@x < 3)))"},
		{"filter-apply", "filter(apply(t; w = @x); (.v > 2))", "apply(filter(t; (.v > 2)); w = @x)"},
		{"filter-apply", "filter(apply(t; w = @x); (.w > 2))", ""},
		{"filter-apply", "filter(apply(t; w = @x); ((.v = 1) and (.w > 2)))", ""},
		{"filter-project", "filter(project(g; b); (.b and (@z = 1)))", "project(filter(g; (.b and (@z = 1))); b)"},
		{"filter-rename", "filter(rename(t; v, w); ((.w > 2) or (.w < @x)))", "rename(filter(t; ((.v > 2) or (.v < @x))); v, w)"},
		{"filter-rename", "filter(rename(t; x, a); (.v > @a))", "rename(filter(t; (.v > @x)); x, a)"},
		{"filter-rename", "filter(rename(t; x, x); (.v > @x))", "rename(filter(t; (.v > @x)); x, x)"},
		{"filter-transpose", "filter(transpose(t; y, x); (@y = 1))", "transpose(filter(t; (@y = 1)); y, x)"},
		{"filter-join", "filter(join(t, u); (@y = 1))", "join(filter(t; (@y = 1)), u)"},
		{"filter-join", "filter(join(t, u); false)", "join(filter(t; false), u)"},
		{"filter-join", "filter(join(t, u); ((@y = 1) and (.w = 'a')))", "join(t, filter(u; ((@y = 1) and (.w = 'a'))))"},
		{"filter-join", "filter(join(t, u); ((.w = 'a') and (.v > 2)))", ""},
		{"filter-cross", "filter(cross(t, o); (@x = .v))", "cross(filter(t; (@x = .v)), o)"},
		{"filter-cross", "filter(cross(t, o); (.n > @p))", "cross(t, filter(o; (.n > @p)))"},
		{"filter-cross", "filter(cross(t, o); (@x = @p))", ""},
		{"filter-concat", "filter(concat(t, t2; x); (@y = .v))", "concat(filter(t; (@y = .v)), filter(t2; (@y = .v)); x)"},
		{"filter-concat", "filter(concat(t, t; x); (@x = 1))", ""},
		{"project-project", "project(project(g; b, k); b)", "project(g; b)"},
		{"project-apply", "project(apply(t; w = @x); v)", "project(t; v)"},
		{"project-apply", "project(apply(t; w = @x); w, v)", ""},
		{"project-all", "project(g; k, b)", "g"},
		{"project-all", "project(g; b, k)", ""},
		{"project-all", "project(g; k)", ""},
		{"transpose-transpose", "transpose(transpose(t; y, x); y, x)", "transpose(t; y, x)"},
		{"transpose-same", "transpose(t; x, y)", "t"},
		{"transpose-same", "transpose(t; y, x)", ""},
		{"transpose-same", "transpose(o; p)", "o"},
		{"merge-same", "merge(sub(t; 0:1, 0:0), sub(t; 0:1, 0:0))", "sub(t; 0:1, 0:0)"},
		{"merge-same", "merge(sub(t; 0:1, 0:0), sub(t; 0:1, 0:1))", ""},
		{"merge-same", "merge(t, t2)", ""},
		{"regrid-regrid", "regrid(regrid(g; 2, 1; count(k) as n, max(b) as m, min(k) as l); 2, 3; min(l) as c, max(m) as a, sum(n) as b)", "regrid(g; 4, 3; min(k) as c, max(b) as a, count(k) as b)"},
		{"regrid-regrid", "regrid(regrid(t; 2, 1; min(v) as n, max(v) as m); 2, 2; max(n) as m)", ""},
		{"regrid-regrid", "regrid(regrid(t; 2, 1; min(v) as n, max(v) as m); 2, 2; min(n) as a, min(m) as b)", ""},
		{"regrid-regrid", "regrid(regrid(t; 2, 1; count(v) as n); 2, 2; count() as m)", ""},
		{"regrid-regrid", "regrid(regrid(t; 2, 1; count(v) as n); 2, 2; count(n) as m)", ""},
		{"regrid-regrid", "regrid(regrid(t; 2, 1; sum(v) as n); 2, 2; sum(n) as m)", ""},
		{"regrid-regrid", "regrid(regrid(t; 2, 1; distinct(v) as n); 2, 2; sum(n) as m)", ""},
		{"regrid-regrid", "regrid(regrid(t; 2, 1; avg(v) as n); 2, 2; avg(n) as m)", ""},
		{"regrid-regrid", "regrid(regrid(o; 1048576; min(n) as a); 1024; min(a) as a)", "regrid(o; 1073741824; min(n) as a)"},
		{"regrid-regrid", "regrid(regrid(o; 1073741824; min(n) as a); 1073741824; min(a) as a)", ""},
		// no schema, or no rule
		{"sub-whole", "sub(t; 4:9, 0:1)", ""},
		{"sub-whole", "sub(none; 0:1)", ""},
		{"filter-true", "filter(none; true)", ""},
		{"project-project", "project(project(t; v); w)", ""},
		{"none", "filter(t; true)", ""},
		{"", "filter(t; true)", ""},
		{"filter-true", "t", ""},
	}
}

func TestRewrite(t *testing.T) {
	met := map[string]bool{}
	for _, x := range rewritings() {
		e, is := engine.Rewrite(base(), read(x[1]), x[0])
		if !is {
			if x[2] != "" || !isZeroExpr(e) {
				t.Errorf("%s of %s: not rewritten, but %s", x[0], x[1], x[2])
			}
			continue
		}
		met[x[0]] = true
		if s := text(e); s != x[2] {
			t.Errorf("%s of %s: %s, not %s", x[0], x[1], s, x[2])
		}
	}
	if len(met) != len(ruleNames()) {
		t.Error(met)
	}
}

func TestRewriteRefuses(t *testing.T) {
	// The right side must be well-formed: here its scalar would be too deep.
	for depth := 2; depth <= api.MaxDepth; depth++ {
		deep := strings.Repeat("not(", depth-1) + "true" + strings.Repeat(")", depth-1)
		e, is := engine.Rewrite(base(), read("filter(filter(t; "+deep+"); false)"), "filter-filter")
		if is != (depth < api.MaxDepth) || is && text(e) != "filter(t; ("+deep+" and false))" {
			t.Error(depth, is, e)
		}
	}
	for k, db := range spoiled() {
		if e, is := engine.Rewrite(db, read("filter(t; true)"), "filter-true"); is || !isZeroExpr(e) {
			t.Error(k, e)
		}
	}
	for _, e := range []api.Expr{{}, {Op: api.ESub, Lo: list(0, 0), Hi: list(3, 1)}, {Op: 99, Args: []api.Expr{scan("t")}}} {
		for _, r := range ruleNames() {
			if e, is := engine.Rewrite(base(), e, r); is || !isZeroExpr(e) {
				t.Error(r, e)
			}
		}
	}
	loop := api.Expr{Op: api.EFilter, By: constant(api.Val{Kind: api.KBool, N: 1}), Args: make([]api.Expr, 1)}
	loop.Args[0] = loop
	if e, is := engine.Rewrite(base(), loop, "filter-true"); is || !isZeroExpr(e) {
		t.Error("an expression without an end was rewritten")
	}
	// 64 nodes: one more is too many.
	if e, is := engine.Rewrite(base(), read("sub("+merges(31)+"; 0:1, 0:0)"), "sub-merge"); is || !isZeroExpr(e) {
		t.Error("an expression with too many nodes")
	}
	if e, is := engine.Rewrite(base(), read("sub("+merges(30)+"; 0:1, 0:0)"), "sub-merge"); !is || specNodes(e) != 63 {
		t.Error("not rewritten")
	}
}

// merges returns an expression with so many merges of scans, in a tree that is not deep.
func merges(n int) string {
	if n == 0 {
		return "t"
	}
	return "merge(" + merges((n-1)/2) + ", " + merges(n-1-(n-1)/2) + ")"
}

// boundsAt returns the bounds of a box, for dimensions, along some of these, as a string.
func boundsAt(b api.Box, among, dims []api.Dim) string {
	var out api.Box
	for _, d := range dims {
		k := slices.IndexFunc(among, func(x api.Dim) bool { return x.Name == d.Name })
		out.Lo, out.Hi = append(out.Lo, b.Lo[k]), append(out.Hi, b.Hi[k])
	}
	return boxText(out)
}

// around returns the string of a node over an operand that has another string.
func around(e api.Expr, operands ...string) string {
	for k := range e.Args {
		e.Args = slices.Clone(e.Args)
		e.Args[k] = scan("q" + strconv.Itoa(k))
	}
	out := text(e)
	for k, s := range operands {
		out = strings.Replace(out, "q"+strconv.Itoa(k), s, 1)
	}
	return out
}

// specSub returns the string of the right side of a rule for a sub, and an empty string if there is none.
func specSub(db api.DB, inner string, e api.Expr) string {
	in := e.Args[0]
	a := schema(db, in)
	b := api.Box{Lo: e.Lo, Hi: e.Hi}
	whole, _ := space.Whole(a.Dims)
	part, _ := space.Inter(b, whole)
	if inner == "whole" {
		if sameBox(part, whole) {
			return text(in)
		}
		return ""
	}
	x := in.Args[0]
	xs := schema(db, x)
	switch inner {
	case "sub":
		for k := range b.Lo {
			b.Lo[k], b.Hi[k] = max(b.Lo[k], in.Lo[k]), min(b.Hi[k], in.Hi[k])
		}
		return "sub(" + text(x) + "; " + boxText(b) + ")"
	case "rename":
		return around(in, "sub("+text(x)+"; "+boxText(b)+")")
	case "filter", "apply", "project", "transpose":
		return around(in, "sub("+text(x)+"; "+boundsAt(b, a.Dims, xs.Dims)+")")
	case "merge", "join", "cross":
		var l []string
		for _, y := range in.Args {
			own, _ := space.Whole(schema(db, y).Dims)
			if _, is := space.Inter(part, own); inner == "merge" && !is {
				return ""
			}
			l = append(l, "sub("+text(y)+"; "+boundsAt(b, a.Dims, schema(db, y).Dims)+")")
		}
		return around(in, l...)
	case "regrid":
		for k, f := range in.Lo {
			part.Lo[k] *= f
			if part.Hi[k] != api.Open {
				part.Hi[k] = part.Hi[k]*f + f - 1
				if part.Hi[k] > api.MaxCoord {
					return ""
				}
			}
		}
		return around(in, "sub("+text(x)+"; "+boxText(part)+")")
	case "group", "redim":
		for k := range in.Dims {
			in.Dims[k].Lo, in.Dims[k].Hi = part.Lo[k], part.Hi[k]
		}
		if in.Rule == api.Fail {
			return ""
		}
		return text(in)
	}
	for k, d := range xs.Dims {
		switch {
		case inner == "window":
			part.Lo[k] -= in.Lo[k]
			if part.Hi[k] != api.Open {
				part.Hi[k] += in.Hi[k]
			}
		case d.Name == in.Name && inner == "vary":
			part.Lo[k], part.Hi[k] = d.Lo, d.Hi
		case d.Name == in.Name:
			part.Lo[k] = d.Lo
		}
	}
	own, _ := space.Whole(xs.Dims)
	part, _ = space.Inter(part, own)
	if sameBox(part, own) {
		return ""
	}
	return around(e, around(in, "sub("+text(x)+"; "+boxText(part)+")"))
}

// specFilter returns the same of a rule for a filter.
func specFilter(db api.DB, inner string, e api.Expr) string {
	by, _ := query.PrintScalar(e.By)
	in := e.Args[0]
	if inner == "true" {
		if by == "true" {
			return text(in)
		}
		return ""
	}
	uses := algebra.Uses(e.By)
	filtered := func(x api.Expr) string { return "filter(" + text(x) + "; " + by + ")" }
	switch inner {
	case "filter":
		first, _ := query.PrintScalar(in.By)
		return "filter(" + text(in.Args[0]) + "; (" + first + " and " + by + "))"
	case "apply", "concat":
		if slices.Contains(uses, in.Name) {
			return ""
		}
	case "rename":
		for _, mark := range []string{".", "@"} {
			for _, end := range []string{" ", ")", ",", "!"} {
				by = strings.TrimSuffix(strings.ReplaceAll(by+"!", mark+in.Names[1]+end, mark+in.Names[0]+end), "!")
			}
		}
	case "join", "cross":
		for k, x := range in.Args {
			dims, attrs := allNames(schema(db, x))
			if !slices.ContainsFunc(uses, func(name string) bool { return !slices.Contains(dims, name) && !slices.Contains(attrs, name) }) {
				l := []string{text(in.Args[0]), text(in.Args[1])}
				l[k] = filtered(x)
				return around(in, l...)
			}
		}
		return ""
	}
	var l []string
	for _, x := range in.Args {
		l = append(l, filtered(x))
	}
	return around(in, l...)
}

// specRegrid returns the same of regrid-regrid.
func specRegrid(e api.Expr) string {
	in := e.Args[0]
	for k := range e.Lo {
		e.Lo[k] *= in.Lo[k]
		if e.Lo[k] > api.MaxCoord {
			return ""
		}
	}
	for k, x := range e.Aggs {
		found := false
		for _, y := range in.Aggs {
			if y.As == x.Attr && slices.Contains([][2]int{{api.Min, api.Min}, {api.Max, api.Max}, {api.Sum, api.Count}}, [2]int{x.Fn, y.Fn}) {
				e.Aggs[k].Fn, e.Aggs[k].Attr = y.Fn, y.Attr
				found = true
			}
		}
		if !found {
			return ""
		}
	}
	return around(e, text(in.Args[0]))
}

// specRewrite returns the string of what a rule makes of an expression that has the form on the left, and an empty string if the condition does not hold,
// as the chapter says it.
func specRewrite(db api.DB, rule string, e api.Expr) string {
	e = read(text(e)) // a copy, which can be changed
	outer, inner, _ := strings.Cut(rule, "-")
	in := e.Args[0]
	dims, attrs := allNames(schema(db, in))
	switch rule {
	case "project-all", "transpose-same":
		if !slices.Equal(e.Names, dims) && !slices.Equal(e.Names, attrs) {
			return ""
		}
		return text(in)
	case "project-apply":
		if slices.Contains(e.Names, in.Name) {
			return ""
		}
		return around(e, text(in.Args[0]))
	case "project-project", "transpose-transpose":
		return around(e, text(in.Args[0]))
	case "merge-same":
		if text(in) != text(e.Args[1]) {
			return ""
		}
		return text(in)
	case "regrid-regrid":
		return specRegrid(e)
	}
	if outer == "sub" {
		return specSub(db, inner, e)
	}
	return specFilter(db, inner, e)
}

// opOf returns the operation with a word, and 0 if there is none.
func opOf(word string) int {
	l := strings.Fields("scan sub filter apply project rename reshape transpose concat join cross merge redim group regrid window vary cumulate rank")
	return slices.Index(l, word) + 1
}

// hasForm reports whether an expression has the form on the left side of a rule.
func hasForm(rule string, e api.Expr) bool {
	outer, inner, _ := strings.Cut(rule, "-")
	return e.Op == opOf(outer) && (opOf(inner) == 0 || e.Args[0].Op == opOf(inner))
}

// candidate returns an expression that is likely to have the form on the left side of a rule.
func (d *dice) candidate(db api.DB, rule string) api.Expr {
	outer, inner, _ := strings.Cut(rule, "-")
	e := d.denoting(db, d.from(1, 3))
	if n := opOf(inner); n != 0 {
		for range 20 {
			if x, is := d.above(db, e, n, 2); is {
				e = x
				break
			}
		}
	}
	for range 20 {
		if x, is := d.above(db, e, opOf(outer), 2); is {
			return d.fitted(db, rule, x)
		}
	}
	return e
}

// fitted returns an expression with the form of a rule that often fits its condition, too, if this holds rarely.
func (d *dice) fitted(db api.DB, rule string, e api.Expr) api.Expr {
	x := e
	switch {
	case rule == "filter-true" && d.next()%2 == 0:
		x.By = constant(api.Val{Kind: api.KBool, N: 1})
	case rule == "regrid-regrid" && hasForm(rule, e) && d.next()%2 == 0:
		fns := pick(d, [2]int{api.Count, api.Sum}, [2]int{api.Min, api.Min}, [2]int{api.Max, api.Max})
		_, attrs := allNames(schema(db, e.Args[0].Args[0]))
		in := e.Args[0]
		in.Aggs = []api.Agg{{Fn: d.from(api.Count, api.Distinct), Attr: pick(d, attrs...), As: "a1"}, {Fn: fns[0], Attr: pick(d, attrs...), As: "a2"}}
		x.Args = []api.Expr{in}
		x.Aggs = []api.Agg{{Fn: fns[1], Attr: "a2", As: "a3"}}
	}
	if _, f := query.Schema(db, x); f != api.OK {
		return e
	}
	return x
}

// P7.2, P7.9: each rule makes what the chapter says, and it denotes the same array.
func TestRewriteBySpec(t *testing.T) {
	d := dice(73)
	for _, rule := range ruleNames() {
		met, refused, denoted := 0, 0, 0
		for range 200 {
			db := d.filled(base())
			e := d.candidate(db, rule)
			out, is := engine.Rewrite(db, e, rule)
			if !hasForm(rule, e) {
				if is {
					t.Fatalf("%s of %s: it has not the form", rule, text(e))
				}
				continue
			}
			want := specRewrite(db, rule, e)
			if !is {
				refused++
				right, f := query.Read(want)
				if f != api.OK { // there is no right side, or it is not well-formed
					continue
				}
				if a, f := query.Schema(db, right); f == api.OK && sameSchema(a, schema(db, e)) {
					t.Fatalf("%s of %s: not rewritten, but %s", rule, text(e), want)
				}
				continue
			}
			met++
			if text(out) != want {
				t.Fatalf("%s of %s: %s, not %s", rule, text(e), text(out), want)
			}
			if !sameSchema(schema(db, e), schema(db, out)) {
				t.Fatalf("%s of %s: another schema", rule, text(e))
			}
			if a, f := query.Eval(db, e); f == api.OK {
				b, g := query.Eval(db, out)
				expect(t, rule+" of "+text(e), b, g, a, api.OK)
				denoted += min(len(a.Cells), 1)
			}
		}
		if met < 20 || denoted < 10 {
			t.Errorf("%s was applied only %d times, %d times to an array with cells (refused %d times)", rule, met, denoted, refused)
		}
	}
}
