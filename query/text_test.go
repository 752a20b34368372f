package query_test

import (
	"fmt"
	"strings"
	"testing"

	"tesseract/api"
	"tesseract/query"
)

// This file computes strings as the chapter says them.

func specValue(v api.Val) string {
	switch {
	case v.Kind == api.KBool:
		return fmt.Sprint(v.N == 1)
	case v.Kind == api.KText:
		return "'" + strings.ReplaceAll(v.S, "'", "''") + "'"
	case v.D == 1:
		return fmt.Sprint(v.N)
	}
	return fmt.Sprintf("%d/%d", v.N, v.D)
}

func specScalar(s api.Scalar) string {
	var l []any
	for _, x := range s.Args {
		l = append(l, specScalar(x))
	}
	switch s.Op {
	case api.SConst:
		return specValue(s.Val)
	case api.SAttr:
		return "." + s.Name
	case api.SDim:
		return "@" + s.Name
	case api.SNot:
		return fmt.Sprintf("not(%s)", l...)
	case api.SNeg:
		return fmt.Sprintf("neg(%s)", l...)
	case api.SFloor:
		return fmt.Sprintf("floor(%s)", l...)
	case api.SMissing:
		return fmt.Sprintf("missing(%s)", l...)
	case api.SReason:
		return fmt.Sprintf("reason(%s)", l...)
	case api.SIf:
		return fmt.Sprintf("if(%s, %s, %s)", l...)
	}
	symbols := strings.Fields("+ - * / = != < <= > >= and or else")
	return fmt.Sprintf("(%s "+symbols[s.Op-api.SAdd]+" %s)", l...)
}

// comma returns strings with a comma and a space between them.
func comma[E any](l []E, text func(k int) string) string {
	out := ""
	for k := range l {
		if k > 0 {
			out += ", "
		}
		out += text(k)
	}
	return out
}

func specBound(hi int) string {
	if hi == 1<<30+1 {
		return "*"
	}
	return fmt.Sprint(hi)
}

func specExpr(e api.Expr) string {
	if e.Op == api.EScan {
		return e.Name
	}
	o := comma(e.Args, func(k int) string { return specExpr(e.Args[k]) })
	n := comma(e.Names, func(k int) string { return e.Names[k] })
	i := comma(e.Lo, func(k int) string { return fmt.Sprint(e.Lo[k]) })
	b := comma(e.Hi, func(k int) string { return fmt.Sprint(e.Lo[k]) + ":" + specBound(e.Hi[k]) })
	d := comma(e.Dims, func(k int) string {
		return e.Dims[k].Name + " " + fmt.Sprint(e.Dims[k].Lo) + ":" + specBound(e.Dims[k].Hi)
	})
	a := comma(e.Aggs, func(k int) string {
		return strings.Fields("count sum avg min max var distinct")[e.Aggs[k].Fn-1] + "(" + e.Aggs[k].Attr + ") as " + e.Aggs[k].As
	})
	r := []string{"", "fail", "first", "last"}[e.Rule]
	switch e.Op {
	case api.ESub:
		return fmt.Sprintf("sub(%s; %s)", o, b)
	case api.EFilter:
		return fmt.Sprintf("filter(%s; %s)", o, specScalar(e.By))
	case api.EApply:
		return fmt.Sprintf("apply(%s; %s = %s)", o, e.Name, specScalar(e.By))
	case api.EProject:
		return fmt.Sprintf("project(%s; %s)", o, n)
	case api.ERename:
		return fmt.Sprintf("rename(%s; %s)", o, n)
	case api.EReshape:
		return fmt.Sprintf("reshape(%s; %s)", o, d)
	case api.ETranspose:
		return fmt.Sprintf("transpose(%s; %s)", o, n)
	case api.EConcat:
		return fmt.Sprintf("concat(%s; %s)", o, e.Name)
	case api.EJoin:
		return fmt.Sprintf("join(%s)", o)
	case api.ECross:
		return fmt.Sprintf("cross(%s)", o)
	case api.EMerge:
		return fmt.Sprintf("merge(%s)", o)
	case api.ERedim:
		return fmt.Sprintf("redim(%s; %s; %s; %s)", o, d, n, r)
	case api.EGroup:
		return fmt.Sprintf("group(%s; %s; %s)", o, d, a)
	case api.ERegrid:
		return fmt.Sprintf("regrid(%s; %s; %s)", o, i, a)
	case api.EWindow:
		return fmt.Sprintf("window(%s; %s; %s)", o, b, a)
	case api.EVary:
		return fmt.Sprintf("vary(%s; %s %s; %s)", o, e.Name, b, a)
	case api.ECumulate:
		return fmt.Sprintf("cumulate(%s; %s; %s)", o, e.Name, a)
	}
	return fmt.Sprintf("rank(%s; %s; %s)", o, n, e.Name)
}

// P6.5

func TestPrint(t *testing.T) {
	t1 := scan("t")
	for want, e := range map[string]api.Expr{
		"t": t1,
		"sub(t; -1:*, 1073741825:-5, 0:1073741826)":       {Op: api.ESub, Lo: list(-1, api.Open, 0), Hi: list(api.Open, -5, api.Open+1), Args: args(t1)},
		"filter(sub; (.v > 2))":                           {Op: api.EFilter, By: op(api.SGt, use("v"), constant(num(2))), Args: args(scan("sub"))},
		"apply(t; n = 'it''s; )')":                        {Op: api.EApply, Name: "n", By: constant(txt("it's; )")), Args: args(t1)},
		"project(t; a, b, a)":                             {Op: api.EProject, Names: names("a", "b", "a"), Args: args(t1)},
		"reshape(t; z -4:3, y 0:*)":                       {Op: api.EReshape, Dims: dims(dim("z", -4, 3), dim("y", 0, api.Open)), Args: args(t1)},
		"concat(t, merge(t, u); x)":                       {Op: api.EConcat, Name: "x", Args: args(t1, merged(t1, scan("u")))},
		"redim(t; v 0:9; x; last)":                        {Op: api.ERedim, Dims: dims(dim("v", 0, 9)), Names: names("x"), Rule: api.Last, Args: args(t1)},
		"group(t; y 0:1; count() as n, distinct(v) as m)": {Op: api.EGroup, Dims: dims(dim("y", 0, 1)), Aggs: aggs(of(api.Count, "", "n"), of(api.Distinct, "v", "m")), Args: args(t1)},
		"regrid(t; 2, -3; avg(v) as m)":                   {Op: api.ERegrid, Lo: list(2, -3), Aggs: aggs(of(api.Avg, "v", "m")), Args: args(t1)},
		"vary(t; x 1:*; max(v) as m)":                     {Op: api.EVary, Name: "x", Lo: list(1), Hi: list(api.Open), Aggs: aggs(of(api.Max, "v", "m")), Args: args(t1)},
		"rank(t; v; r)":                                   {Op: api.ERank, Name: "r", Names: names("v"), Args: args(t1)},
		"rank(t; v, y, x; r)":                             {Op: api.ERank, Name: "r", Names: names("v", "y", "x"), Args: args(t1)},
	} {
		s, f := query.Print(e)
		back, g := query.Read(want)
		if f != api.OK || g != api.OK || s != want || !sameExpr(back, e) {
			t.Errorf("%s: %s %d %+v %d", want, s, f, back, g)
		}
	}
	for _, e := range []api.Expr{{}, scan("T"), only(t1), full(13, 13), full(7, 65), full(14, 70)} {
		if s, f := query.Print(e); s != "" || f != query.Check(e) || f == api.OK {
			t.Error(s, f)
		}
	}
}

// ofLength returns an expression whose string has a length from about 1,000 to 4,500.
func ofLength(length int) api.Expr {
	chain := func() api.Expr {
		e := scan("t")
		for range 9 {
			e = api.Expr{Op: api.ESub, Lo: list(1, 1, 1, 1), Hi: list(1, 1, 1, 1), Args: args(e)}
		}
		return e
	}
	e := merged(chain(), merged(chain(), chain()))
	missing := length - len(specExpr(e))
	for _, x := range places(&e) {
		for k := range x.Lo {
			for _, n := range []*int{&x.Lo[k], &x.Hi[k]} {
				for ; missing > 0 && *n < 1e18; missing-- {
					*n *= 10
				}
			}
		}
	}
	return e
}

func TestPrintLong(t *testing.T) {
	for _, length := range list(2000, 3990, 3999, 4000, 4001, 4002, 4100, 4500) {
		e := ofLength(length)
		want := specExpr(e)
		if len(want) != length || query.Check(e) != api.OK {
			t.Fatal("the test itself is wrong", len(want), length)
		}
		s, f := query.Print(e)
		back, g := query.Read(want)
		if length <= api.MaxLine && (f != api.OK || s != want || g != api.OK || !sameExpr(back, e)) {
			t.Error(length, f, g)
		}
		if length > api.MaxLine && (f != api.ErrLong || s != "" || g != api.ErrLong || !isZeroExpr(back)) {
			t.Error(length, f, g)
		}
	}
	for _, length := range list(4001, 5000, 100000) {
		for _, s := range names("t", " ", "sub(", "'", "-") {
			if e, f := query.Read(strings.Repeat(s, length)[:length]); f != api.ErrLong || !isZeroExpr(e) {
				t.Error(length, f)
			}
			if e, f := query.ReadScalar(strings.Repeat(s, length)[:length]); f != api.ErrLong || !isZeroScalar(e) {
				t.Error(length, f)
			}
		}
	}
	for _, s := range names("t", " ", "sub(", "(", "'", "-", "not(", "if(", ".", "merge(t, ", "''", "(.a else ") {
		if e, f := query.Read(strings.Repeat(s, 4000)[:4000]); f != api.ErrForm || !isZeroExpr(e) {
			t.Error(s, f)
		}
		if e, f := query.ReadScalar(strings.Repeat(s, 4000)[:4000]); f != api.ErrForm || !isZeroScalar(e) {
			t.Error(s, f)
		}
	}
}

func TestReadRefuses(t *testing.T) {
	for _, s := range []string{
		"", "T", "t ", " t", "1", "t1-", "abcdefghi_123", "t;", "(t)", "t(t)", "scan(t)", "t()", "\xc3\xa9",
		"sub(t)", "sub(t; )", "sub(t;0:1)", "sub(t; 0:1) ", "sub (t; 0:1)", "sub( t; 0:1)", "sub(t; 0)", "sub(t; 0:)", "sub(t; :1)", "sub(t; *:1)", "sub(t; 0:1,0:1)", "sub(t; 0:01)", "sub(t; -0:1)", "sub(t; +0:1)",
		"sub(t; 0:1073741825)", "sub(t; 0:9223372036854775808)", "sub(t; 0:1, 0:1, 0:1, 0:1, 0:1)", "sub(t, t; 0:1)", "sub(t; 0:1; 0:1)", "sub(; 0:1)", "sub(t; 0:1", "sub(t; 0:--1)", "sub(t; 0: 1)", "sub(t; 0:1, )",
		"filter(t; )", "filter(t; v)", "filter(t; (v > 2))", "filter(t; (.v > 2)", "filter(t; .v > 2)", "filter(t; ?1)", "filter(t)", "filter(t; .v; .v)", "filter(t; .V)",
		"apply(t; n)", "apply(t; n=.v)", "apply(t; N = .v)", "apply(t; = .v)", "apply(t; n = )",
		"project(t; )", "project(t)", "project(t; a,b)", "project(t; a, b, )", "project(t; a, b, c, d, e, f, g)", "project(t; A)",
		"rename(t; a)", "rename(t; a, b, c)", "reshape(t; z 3:1)", "reshape(t; z)", "reshape(t; z:1)", "reshape(t; z 0:*, z 0:1, z 0:1, z 0:1, z 0:1)", "reshape(t; z  0:1)", "reshape(t; z -1073741825:1)",
		"transpose(t; a, b, c, d, e)", "concat(t; x)", "concat(t, t)", "concat(t, t; )", "concat(t, t; x, y)", "join(t)", "join(t, t, t)", "join(t,t)", "join(t, t; x)", "join(t, t; )", "merge()", "cross(t, )",
		"redim(t; v 0:9; x)", "redim(t; v 0:9; x; last one)", "redim(t; v 0:9; x; Last)", "redim(t; v 0:9; x; )", "redim(t; v 0:9; ; last)", "redim(t; x; v 0:9; last)",
		"group(t; y 0:1; sum() as s)", "group(t; y 0:1; mean(v) as s)", "group(t; y 0:1; sum(v))", "group(t; y 0:1; sum(v) as )", "group(t; y 0:1; sum (v) as s)", "group(t; y 0:1; distinct() as s)", "group(t; y 0:1)", "group(t; y 0:1; )", "group(t; sum(v) as s)",
		"group(t; y 0:1; count as s)", "group(t; y 0:1; count() as a, count() as a, count() as a, count() as a, count() as a, count() as a, count() as a)", "group(t; y 0:1; count() as s, )",
		"regrid(t; ; count() as n)", "regrid(t; 1, 2, 3, 4, 5; count() as n)", "regrid(t; 1:2; count() as n)", "regrid(t; *; count() as n)", "window(t; 1, 2; count() as n)",
		"vary(t; x 1:1, 1:1; count() as n)", "vary(t; x; count() as n)", "vary(t; 1:1; count() as n)", "cumulate(t; count() as n)", "cumulate(t; x 1:1; count() as n)", "rank(t; v; )", "rank(t; v)", "rank(t; ; r)", "rank(t; a, b, c, d, e, f; r)",
	} {
		if e, f := query.Read(s); f != api.ErrForm || !isZeroExpr(e) {
			t.Error(s, f)
		}
	}
	deepest := strings.Repeat("project(", 11) + "t" + strings.Repeat("; v)", 11)
	if _, f := query.Read(deepest); f != api.OK {
		t.Error(f)
	}
	if e, f := query.Read("project(" + deepest + "; v)"); f != api.ErrForm || !isZeroExpr(e) {
		t.Error(f)
	}
	if _, f := query.Read(specExpr(full(7, 64))); f != api.OK {
		t.Error(f)
	}
	if e, f := query.Read(specExpr(full(7, 65))); f != api.ErrForm || !isZeroExpr(e) {
		t.Error(f)
	}
}

// P6.6

func TestScalars(t *testing.T) {
	for _, s := range []string{
		".v", "@x", ".and", "@if", "0", "-3/2", "1099511627776", "-1099511627776", "1/1099511627776", "true", "false", "''", "''''", "'it''s (a, b)'", "'a) as ; '", "(.v - -1)", "neg(1)", "neg(-1)", "(1 / 2)", "1/2",
		"if((.a else .b), not(.c), reason(floor(1/2)))", "((1 + 2) * 'x')", "missing((true and false))", "(.a or .b)", "(.a != .b)", "(.a <= .b)", "(.a >= .b)", "(.a < .b)", "(.a > .b)", "(.a = .b)", "if('a', ',', '''')",
	} {
		x, f := query.ReadScalar(s)
		again, g := query.PrintScalar(x)
		if f != api.OK || g != api.OK || again != s || specScalar(x) != s {
			t.Error(s, f, g, again)
		}
	}
	for _, s := range []string{
		"", "v", ".V", ".", "@", ".v ", " .v", "?1", "2/4", "1/1", "01", "-0", "+1", "1.5", "1099511627777", "1/1099511627777", "True", "'a", "a'", "'it's'", "'a''", "'12345678901234567'", "'\x1f'", "'\x7f'", "'''''",
		"(.v)", "(.v +.v)", "(.v+ .v)", "( .v + .v)", "(.v + .v", ".v + .v", "(.v + .v + .v)", "(.v not .v)", "(.v if .v)", "(.a xor .b)", "(.a  .b)", "(.a)", "()", "(+ .a)", "not(.v", "not()", "not(.v, .v)", "not .v", "not (.v)", "if(.a, .b)", "if(.a, .b, .c, .d)", "if(.a,.b,.c)",
		"neg()", "and(.a, .b)", "+(.a, .b)", "-(.a)", "(.a and)", ".abcdefghi_123", "@1", "'a' 'b'", "..a", "@.a", "null",
	} {
		if x, f := query.ReadScalar(s); f != api.ErrForm || !isZeroScalar(x) {
			t.Error(s, f)
		}
		if e, f := query.Read("filter(t; " + s + ")"); f != api.ErrForm || !isZeroExpr(e) {
			t.Error(s, f)
		}
	}
	for _, x := range []api.Scalar{{}, use(""), use("V"), along("x y"), op(api.SNeg, use("abcdefghi_123")), op(api.SNeg), constant(none(1)), constant(num(api.MaxNum + 1)), tower(13), brush(65), {Op: api.SAttr, Name: "v", Val: num(1)}} {
		if s, f := query.PrintScalar(x); f != api.ErrArg || s != "" {
			t.Error(x, s, f)
		}
	}
	for depth := 10; depth <= 14; depth++ {
		x, f := query.ReadScalar(specScalar(tower(depth)))
		if depth <= 12 && (f != api.OK || !sameScalar(x, tower(depth))) || depth > 12 && (f != api.ErrForm || !isZeroScalar(x)) {
			t.Error(depth, f)
		}
	}
	for parts := 60; parts <= 70; parts++ {
		x, f := query.ReadScalar(specScalar(brush(parts)))
		if parts <= 64 && (f != api.OK || !sameScalar(x, brush(parts))) || parts > 64 && (f != api.ErrForm || !isZeroScalar(x)) {
			t.Error(parts, f)
		}
	}
	unused := op(api.SNeg, deepScalar(use("v")))
	if s, f := query.PrintScalar(unused); s != "neg(.v)" || f != api.OK {
		t.Error(s, f)
	}
}

// P6.10

func TestStringsAgain(t *testing.T) {
	d := dice(21)
	met := map[string]api.Expr{}
	for range 6000 {
		e := d.expr(d.from(1, 7))
		want := specExpr(e)
		s, f := query.Print(e)
		if len(want) > api.MaxLine {
			if f != api.ErrLong || s != "" {
				t.Fatal(len(want), f)
			}
			continue
		}
		back, g := query.Read(want)
		if f != api.OK || g != api.OK || s != want || !sameExpr(back, e) || !query.Same(back, e) {
			t.Fatal(want, f, s, g)
		}
		unshared(t, want, back)
		if other, is := met[want]; is && !query.Same(other, e) {
			t.Fatal("two expressions have the string", want)
		}
		met[want] = e
		x := d.scalar(d.from(1, 5))
		s, f = query.PrintScalar(x)
		y, g := query.ReadScalar(s)
		if f != api.OK || g != api.OK || s != specScalar(x) || !sameScalar(x, y) {
			t.Fatal(specScalar(x), f, s, g)
		}
	}
	if len(met) < 3000 {
		t.Error("too few strings were tested:", len(met))
	}
}

// changed returns a string with a small change.
func (d *dice) changed(s string) string {
	i := d.from(0, len(s))
	switch d.next() % 4 {
	case 0:
		return s[:i] + pick(d, " ", ",", ", ", ";", "(", ")", "'", "0", "-", "1", "a", ".", "@", ":", "*", "=", "v", "/", "A", "\n", "t", "as") + s[i:]
	case 1:
		return s[:i] + s[min(len(s), i+d.from(1, 2)):]
	case 2:
		k := min(len(s), i+d.from(1, 6))
		return s[:i] + s[i:k] + s[i:k] + s[k:]
	}
	return s[:i]
}

func TestReadChanged(t *testing.T) {
	d := dice(22)
	good := 0
	for range 20000 {
		s := d.changed(specExpr(d.expr(d.from(1, 4))))
		e, f := query.Read(s)
		switch f {
		case api.OK:
			good++
			if specExpr(e) != s || query.Check(e) != api.OK {
				t.Fatal(s)
			}
		case api.ErrForm, api.ErrLong:
			if !isZeroExpr(e) || (f == api.ErrLong) != (len(s) > api.MaxLine) {
				t.Fatal(s, f)
			}
		default:
			t.Fatal(s, f)
		}
		s = d.changed(specScalar(d.scalar(d.from(1, 4))))
		x, f := query.ReadScalar(s)
		if f == api.OK && specScalar(x) != s || f != api.OK && (f != api.ErrForm || !isZeroScalar(x)) {
			t.Fatal(s, f)
		}
	}
	if good < 1000 {
		t.Error("too few changed strings are strings again:", good)
	}
}

func TestReadMemory(t *testing.T) {
	d := dice(23)
	for range 300 {
		e := d.expr(5)
		s := specExpr(e)
		if len(s) > api.MaxLine {
			continue
		}
		a, _ := query.Read(s)
		mark := 0
		spoilExpr(a, &mark)
		b, f := query.Read(s)
		if f != api.OK || !sameExpr(b, e) {
			t.Fatal("a result shares memory with a later one", s)
		}
	}
}
