package query_test

import (
	"runtime"
	"slices"
	"strings"
	"testing"

	"tesseract/api"
	"tesseract/query"
)

// P6.7, the translation

// binds compares the string of a query's expression.
func binds(t *testing.T, db api.DB, s, want string) {
	t.Helper()
	e, at, f := query.Bind(db, s)
	text, g := query.Print(e)
	if f != api.OK || g != api.OK || at != 0 || text != want {
		t.Errorf("%q: error %d at %d: %s", s, f, at, text)
	}
}

// refuses compares the error of a query, and its offset.
func refuses(t *testing.T, db api.DB, s string, want api.Errno, offset int) {
	t.Helper()
	e, at, f := query.Bind(db, s)
	if f != want || at != offset || !isZeroExpr(e) {
		t.Errorf("%q: error %d at %d, not %d at %d", s, f, at, want, offset)
	}
}

func TestBind(t *testing.T) {
	for s, want := range map[string]string{
		"select sum(v) as s from t group by y 0:1":                                    "group(t; y 0:1; sum(v) as s)",
		"select v / 2 as h from t where v > 2":                                        "project(apply(filter(t; (.v > 2)); h = (.v / 2)); h)",
		"select * from t[1:, :0] order (y, x)":                                        "transpose(sub(t; 1:*, -1073741824:0); y, x)",
		"select avg(v) as m from t window 1 1, 0 0":                                   "window(t; 1:1, 0:0; avg(v) as m)",
		"select v, r from t rank v in y as r":                                         "project(rank(t; v, y; r); v, r)",
		"select * from t":                                                             "t",
		"select v from t":                                                             "project(t; v)",
		"select * from t rank v as r":                                                 "rank(t; v; r)",
		"select * from t rank v in y, x as r":                                         "rank(t; v, y, x; r)",
		"select v + r as s from t rank v as r":                                        "project(apply(rank(t; v; r); s = (.v + .r)); s)",
		"select count() as n, max(v) as m from t regrid by 2, 1":                      "regrid(t; 2, 1; count() as n, max(v) as m)",
		"select count(v) as n, distinct(v) as d, var(v) as w from t window 0 64, 2 1": "window(t; 0:64, 2:1; count(v) as n, distinct(v) as d, var(v) as w)",
		"select min(v) as m from t vary x 1 0":                                        "vary(t; x 1:0; min(v) as m)",
		"select avg(v) as n from t along y":                                           "cumulate(t; y; avg(v) as n)",
		"select sum(v) as n from t group by v -5:*, x - 1 : -0":                       "group(t; v -5:*, x -1:0; sum(v) as n)",
		"select * from t[:1073741825, -3:1073741826]":                                 "sub(t; -1073741824:*, -3:1073741826)",
		"select * from t[0:1, :] join u[:]":                                           "join(sub(t; 0:1, -1073741824:*), sub(u; -1073741824:*))",
		"select * from t concat t2 on x merge t join u cross z":                       "cross(join(merge(concat(t, t2; x), t), u), z)",
		"select * from (select v as w from t)[0:1, 0:0] where w > 1":                  "filter(sub(project(apply(t; w = .v); w); 0:1, 0:0); (.w > 1))",
		"select * from t merge (select * from t2 where v > 1) where v > 2":            "filter(merge(t, filter(t2; (.v > 1))); (.v > 2))",
		"select * from (select * from (select * from t)) order (y, x)":                "transpose(t; y, x)",
		"select max(m) as k from (select max(v) as m from t along x) along y":         "cumulate(cumulate(t; x; max(v) as m); y; max(m) as k)",
		"select x as a, a as b, b + 1 as c from t":                                    "project(apply(apply(apply(t; a = @x); b = .a); c = (.b + 1)); a, b, c)",
		"select - v - 1 - 2 * x / 3 as a from t":                                      "project(apply(t; a = ((neg(.v) - 1) - ((2 * @x) / 3))); a)",
		"select - - v * - 2 as a from t":                                              "project(apply(t; a = (neg(neg(.v)) * neg(2))); a)",
		"select 1 - (2 - 3) - 4 as a from t":                                          "project(apply(t; a = ((1 - (2 - 3)) - 4)); a)",
		"select 8 / 4 * 2 / (v + 1) as a from t":                                      "project(apply(t; a = (((8 / 4) * 2) / (.v + 1))); a)",
		"select x < 2 and y = 0 or not true else false as b from t":                   "project(apply(t; b = ((((@x < 2) and (@y = 0)) or not(true)) else false)); b)",
		"select v else x else y as b from t":                                          "project(apply(t; b = ((.v else @x) else @y)); b)",
		"select true or false and true or false as b from t":                          "project(apply(t; b = ((true or (false and true)) or false)); b)",
		"select not not v != 1 as b from t":                                           "project(apply(t; b = not(not((.v != 1)))); b)",
		"select not (v <= 1) = (x >= 2) as b from t":                                  "project(apply(t; b = not(((.v <= 1) = (@x >= 2)))); b)",
		"select if(v > 2, 'big', 'small') as s, s as r from t":                        "project(apply(apply(t; s = if((.v > 2), 'big', 'small')); r = .s); s, r)",
		"select floor(v / 2) as f, reason((v)) as g, missing(v) as h from t":          "project(apply(apply(apply(t; f = floor((.v / 2))); g = reason(.v)); h = missing(.v)); f, g, h)",
		"select 'it''s' as a, '' as b, '''' as c, 1099511627776 as d from t":          "project(apply(apply(apply(apply(t; a = 'it''s'); b = ''); c = ''''); d = 1099511627776); a, b, c, d)",
		"select 'aaaaaaaaaaaaaa''''' as a from t":                                     "project(apply(t; a = 'aaaaaaaaaaaaaa'''''); a)",
		"select*from t join u where w='it''s'order(x,y)":                              "transpose(filter(join(t, u); (.w = 'it''s')); x, y)",
		"\tselect v\nfrom t [ - 1 : 2 , : ]\r\n":                                      "project(sub(t; -1:2, -1073741824:*); v)",
	} {
		binds(t, base(), s, want)
	}
	db := with(with(base(), "sub", parse("dim neg 0:3\nattr filter int\n")), longName, parse("dim x 0:3\nattr "+longName[:11]+"x int\n"))
	binds(t, db, "select filter + neg as fail from sub", "project(apply(sub; fail = (.filter + @neg)); fail)")
	binds(t, db, "select * from "+longName, longName)
	binds(t, db, "select a, b, c, d, e, f from (select 1 as a, 2 as b, 3 as c, 4 as d, 5 as e from t) rank a as f", "project(rank(project(apply(apply(apply(apply(apply(t; a = 1); b = 2); c = 3); d = 4); e = 5); a, b, c, d, e); a; f); a, b, c, d, e, f)")
}

func TestBindRefuses(t *testing.T) {
	db := base()
	for _, x := range []struct {
		s    string
		want api.Errno
		at   int
	}{
		{"select v from none", api.ErrNone, 14},
		{"select w from t", api.ErrName, 0},
		{"  select w from t", api.ErrName, 2},
		{"select x from t", api.ErrName, 0},
		{"select v, v from t", api.ErrName, 0},
		{"select v as v from t", api.ErrName, 7},
		{"select v as x from t", api.ErrName, 7},
		{"select v, (v + w) as a from t", api.ErrName, 10},
		{"select a as b, v as a from t", api.ErrName, 7},
		{"select - 'a' as b, w as a from t", api.ErrType, 7},
		{"select v from t[0:1]", api.ErrShape, 15},
		{"select v from t [0:1, 5:6]", api.ErrRange, 16},
		{"select v from t[0:1, 0:1, 0:1, 0:1, 0:1]", api.ErrArg, 15},
		{"select v from t where v", api.ErrType, 16},
		{"select v from t where w = 1", api.ErrName, 16},
		{"select - v + x * 2 as w from t merge (select v as w from t)", api.ErrType, 31},
		{"select v from t join z", api.ErrShape, 16},
		{"select v from t cross t", api.ErrName, 16},
		{"select v from t concat t2 on v", api.ErrName, 16},
		{"select v from t merge u join none", api.ErrShape, 16},
		{"select v from t merge none join u", api.ErrNone, 22},
		{"select v from t merge u[9:9]", api.ErrRange, 23},
		{"select * from (select w from t) join none", api.ErrName, 15},
		{"select * from none join (select w from t)", api.ErrNone, 14},
		{"select * from t join (select w from t)", api.ErrName, 22},
		{"select * from (select * from (select w from t) where w) where w", api.ErrName, 30},
		{"select * from (select * from (select v from t) where w) where w", api.ErrName, 47},
		{"select * from (select * from (select v from t) where v > 1) where w", api.ErrName, 60},
		{"select sum(w) as s from t join u along x", api.ErrType, 33},
		{"select sum(v) as x from t along x", api.ErrName, 26},
		{"select sum(v) as s from t along v", api.ErrName, 26},
		{"select sum(v) as s from t group by y 1:0", api.ErrArg, 26},
		{"select sum(v) as s from t group by y 0:1073741826", api.ErrArg, 26},
		{"select sum(v) as s from t group by y -1073741825:0", api.ErrArg, 26},
		{"select sum(v) as s from t group by w 0:1", api.ErrName, 26},
		{"select sum(v) as s from t group by y 0:1, y 0:1", api.ErrName, 26},
		{"select sum(v) as s from t group by y 0:1, y 0:1, y 0:1, y 0:1, y 0:1", api.ErrArg, 26},
		{"select sum(v) as s from t regrid by 2", api.ErrShape, 26},
		{"select sum(v) as s from t regrid by 2, 0", api.ErrRange, 26},
		{"select sum(v) as s from t regrid by 1, 1, 1, 1, 1", api.ErrArg, 26},
		{"select sum(v) as s from t window 1 1", api.ErrShape, 26},
		{"select sum(v) as s from t window 65 0, 0 0", api.ErrRange, 26},
		{"select sum(v) as s from t window 0 1099511627776, 0 0", api.ErrRange, 26},
		{"select sum(v) as s from t vary y 0 65", api.ErrRange, 26},
		{"select sum(v) as s from t vary v 0 65", api.ErrName, 26},
		{"select sum(v) as s, sum(v) as s from t along x", api.ErrName, 39},
		{"select sum(v) as a, sum(v) as b, sum(v) as c, sum(v) as d, sum(v) as e, sum(v) as f, sum(v) as g from t along x", api.ErrArg, 104},
		{"select v, r from t rank w as r", api.ErrName, 19},
		{"select v, r from t rank v in z as r", api.ErrName, 19},
		{"select v, r from t rank v as x", api.ErrName, 19},
		{"select v, v as r from t rank v as r", api.ErrName, 10},
		{"select v, q from t rank v as r", api.ErrName, 0},
		{"select v from t rank v in x, x, x, x, x as r", api.ErrArg, 16},
		{"select v from t order (x)", api.ErrShape, 16},
		{"select v from t order (x, x)", api.ErrName, 16},
		{"select v from t order (x, v)", api.ErrName, 16},
		{"select v from t order (x, y, x, y, x)", api.ErrArg, 16},
		{"select 1 as a, 2 as b, 3 as c, 4 as d, 5 as e, 6 as f from t", api.ErrMany, 47},
		{"select v, v, v, v, v, v, v from t", api.ErrArg, 0},
		// the form of items comes behind the source and the condition, and in front of the other errors of its step
		{"select count() as n from t", api.ErrForm, 7},
		{"select v, count() as n from t", api.ErrForm, 10},
		{"select v from t along x", api.ErrForm, 7},
		{"select - v as w from t along x", api.ErrForm, 7},
		{"select v, sum(v) as s from t along x", api.ErrForm, 7},
		{"select sum(v) as s, v from t along w", api.ErrForm, 20},
		{"select * from t along x", api.ErrForm, 7},
		{"select sum(v) as s from t rank w as r", api.ErrForm, 7},
		{"select w, sum(v) as s from t rank v as r", api.ErrForm, 10},
		{"select count() as n from none", api.ErrNone, 25},
		{"select count() as n from t where w", api.ErrName, 27},
		{"select v from t where w along x", api.ErrName, 16},
		{"select count() as n from t order (q)", api.ErrForm, 7},
		{"select * from t merge (select count() as n from t)", api.ErrForm, 30},
		{"select * from (select v from t along x) join none", api.ErrForm, 22},
	} {
		refuses(t, db, x.s, x.want, x.at)
	}
}

func TestBindLimits(t *testing.T) {
	db := base()
	for _, length := range list(3999, 4000) {
		binds(t, db, "select * from t"+strings.Repeat(" ", length-15), "t")
		refuses(t, db, strings.Repeat(" ", length), api.ErrForm, length)
		binds(t, db, "select v from t where v = "+strings.Repeat("(", (length-27)/2)+"1"+strings.Repeat(")", (length-27)/2), "project(filter(t; (.v = 1)); v)")
	}
	for _, s := range names(" ", "select * from t ", "(", "'", "x", "\xff") {
		refuses(t, db, strings.Repeat(s, 4001)[:4001], api.ErrLong, 0)
	}
	refuses(t, db, "select v from t where"+strings.Repeat(" not", 900)+" missing(v)", api.ErrArg, 16)
	refuses(t, db, "select v from t where v = "+strings.Repeat("- ", 1900)+"1", api.ErrArg, 16)
	refuses(t, db, "select v"+strings.Repeat(" + 1", 900)+" as a from t", api.ErrArg, 7)
	binds(t, db, "select v from t where v = "+strings.Repeat("- ", 10)+"1", "project(filter(t; (.v = "+strings.Repeat("neg(", 10)+"1"+strings.Repeat(")", 10)+")); v)")
	refuses(t, db, "select v from t where v = "+strings.Repeat("- ", 11)+"1", api.ErrArg, 16)
	nested := strings.Repeat("select * from (", 240) + "select * from t" + strings.Repeat(")", 240)
	binds(t, db, nested, "t")
	refuses(t, db, nested[:len(nested)-1], api.ErrForm, len(nested)-1)
	refuses(t, db, strings.Replace(nested, " t)", " u2)", 1), api.ErrNone, 240*15+14)
	// Each of 11 conditions is a node above the last one, and t is the twelfth.
	deepest := "select * from t where v > 0"
	for range 10 {
		deepest = "select * from (" + deepest + ") where v > 0"
	}
	binds(t, db, deepest, strings.Repeat("filter(", 11)+"t"+strings.Repeat("; (.v > 0))", 11))
	refuses(t, db, "select * from ("+deepest+") where v > 0", api.ErrDeep, len(deepest)+17)
	refuses(t, db, "select * from ("+deepest+") merge t", api.ErrDeep, len(deepest)+17)
	// 16 terms with a condition, joined in fours, have 16 * 3 - 1 nodes.
	four := "(select * from t[0:3, :] merge t[0:3, :] merge t[0:3, :] merge t[0:3, :])"
	many := "select * from " + four + " merge " + four + " merge " + four + " merge " + four
	e, _, f := query.Bind(db, many)
	if f != api.OK || query.Nodes(e) != 47 {
		t.Error(f, query.Nodes(e))
	}
	e, _, f = query.Bind(db, many+" merge "+four+"[:, :] merge t")
	if f != api.OK || query.Nodes(e) != 62 {
		t.Error(f, query.Nodes(e))
	}
	many += " merge " + four + "[:, :] merge t merge t"
	e, _, f = query.Bind(db, many)
	if f != api.OK || query.Nodes(e) != 64 {
		t.Error(f, query.Nodes(e))
	}
	refuses(t, db, many+" merge t", api.ErrMany, len(many)+1)
	for k, db := range spoiled() {
		for _, s := range names("select * from t", "select", "", strings.Repeat(" ", 4001)) {
			if e, at, f := query.Bind(db, s); f != api.ErrArg || at != 0 || !isZeroExpr(e) {
				t.Error(k, f, at)
			}
		}
	}
	refuses(t, nil, "select * from t", api.ErrNone, 14)
	refuses(t, nil, "select", api.ErrForm, 6)
}

// Queries that are made by chance: P6.7, P6.9 and P6.13

func TestBindAgrees(t *testing.T) {
	d := dice(41)
	met := map[api.Errno]int{}
	operations := map[int]int{}
	for range 4000 {
		db := d.db()
		q := d.spoken(db, d.from(1, 3))
		var l talk
		q.say(&d, &l)
		s := d.spaced(l, d.from(0, 9))
		if len(s) > api.MaxLine {
			continue
		}
		want, failed := q.translate(db)
		e, at, f := query.Bind(db, s)
		offset := 0
		if failed.code != api.OK {
			offset = offsets(s)[failed.at]
		}
		if f != failed.code || at != offset {
			t.Fatalf("%s: error %d at %d, not %d at %d", s, f, at, failed.code, offset)
		}
		met[f]++
		if f != api.OK {
			if !isZeroExpr(e) {
				t.Fatalf("%s: an expression together with an error", s)
			}
			continue
		}
		if text := specExpr(e); text != want.text || query.Check(e) != api.OK {
			t.Fatalf("%s: %s, not %s", s, text, want.text)
		}
		for _, x := range places(&e) {
			operations[x.Op]++
		}
		unshared(t, s, e)
		bound(t, db, s, e)
		apart(t, &d, db, l, e)
	}
	if met[api.OK] < 1200 || len(met) < 7 {
		t.Error("too few queries of one kind were tested:", met)
	}
	for n := api.EScan; n <= api.ERank; n++ {
		if none := n == api.ERename || n == api.EReshape || n == api.ERedim; none != (operations[n] == 0) {
			t.Error("the operation", n, operations[n])
		}
	}
}

// bound checks P6.9.
func bound(t *testing.T, db api.DB, s string, e api.Expr) {
	schema, f := query.Schema(db, e)
	a, g := query.Eval(db, e)
	if f != api.OK || len(schema.Cells) != 0 || g != api.OK && g != api.ErrMany || g == api.OK && !sameSchema(a, schema) {
		t.Fatalf("%s: %d %d", s, f, g)
	}
}

// apart checks P6.13: with other spaces, there is the same expression, in memory of its own.
func apart(t *testing.T, d *dice, db api.DB, l talk, e api.Expr) {
	for _, s := range names(d.spaced(l, 0), d.spaced(l, 10), " \n"+strings.Join(l, " \t ")+"\r ") {
		if len(s) > api.MaxLine {
			continue
		}
		again, at, f := query.Bind(db, s)
		if f != api.OK || at != 0 || !sameExpr(again, e) {
			t.Fatalf("%q: %d %d", s, f, at)
		}
		mark := 0
		spoilExpr(again, &mark)
	}
}

func TestBindMany(t *testing.T) {
	db := with(with(base(), "l", line(api.MaxCells)), "m", parse("dim a 0:1\nattr w int\n0: 1\n1: 2\n"))
	e, _, f := query.Bind(db, "select v + w as s from l cross m")
	if f != api.OK {
		t.Fatal(f)
	}
	if _, f := query.Schema(db, e); f != api.OK {
		t.Error(f)
	}
	if a, f := query.Eval(db, e); f != api.ErrMany || !isZero(a) {
		t.Error(f)
	}
}

// The tokens are sent by a goroutine, which has ended when Bind returns.
func TestBindEnds(t *testing.T) {
	db := base()
	before := runtime.NumGoroutine()
	for range 300 {
		query.Bind(db, "select v from t, "+strings.Repeat("x ", 1900))
		query.Bind(db, strings.Repeat("x ", 1900))
		query.Bind(db, "select v from none where"+strings.Repeat(" not", 800)+" v")
		query.Bind(db, "select v from t where v > 1 'a")
	}
	for range 1000 {
		if runtime.NumGoroutine() <= before {
			return
		}
		runtime.Gosched()
	}
	t.Error("goroutines are left:", runtime.NumGoroutine()-before)
}

// Calls do not disturb each other, also when they overlap.
func TestBindTogether(t *testing.T) {
	db := base()
	done := make(chan string)
	for k := range 8 {
		go func() {
			fault := ""
			for range 200 {
				s, want := "select v / 2 as h from t where v > 2", "project(apply(filter(t; (.v > 2)); h = (.v / 2)); h)"
				if k%2 == 0 {
					s, want = "select sum(v) as s from t group by y 0:1", "group(t; y 0:1; sum(v) as s)"
				}
				e, at, f := query.Bind(db, s)
				if f != api.OK || at != 0 || specExpr(e) != want {
					fault = s
				}
				if _, at, f := query.Bind(db, s+" !"); f != api.ErrForm || at != len(s)+1 {
					fault = s + " !"
				}
			}
			done <- fault
		}()
	}
	for range 8 {
		if fault := <-done; fault != "" {
			t.Error(fault)
		}
	}
}

func TestBindMemory(t *testing.T) {
	db := base()
	query.Bind(db, "select v + x as s, v from t[0:1, :] where v > 1 order (y, x)")
	query.Bind(db, "select sum(w) as s from t join u along x")
	if !slices.EqualFunc(db, base(), func(a, b api.Named) bool { return a.Name == b.Name && sameArray(a.Array, b.Array) }) {
		t.Error("the database was changed")
	}
}
