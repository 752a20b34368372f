package system_test

import (
	"fmt"
	"strings"
	"testing"

	"tesseract/api"
	"tesseract/engine"
	"tesseract/query"
	"tesseract/space"
	"tesseract/system"
)

// P12.3: lines with queries

// two returns a system with the array of the document's examples, and another one.
func two(t *testing.T) *system.System {
	t.Helper()
	s := begun(t)
	does(t, s, "create u; y 1:*; w text, q rat", "set u; 1: 'a', 1/2; 4: 'it''s', ?7")
	return s
}

func TestSelect(t *testing.T) {
	s := two(t)
	says(t, s, said{"select * from u", "dim y 1:* / attr w text / attr q rat / 1: 'a', 1/2 / 4: 'it''s', ?7"},
		said{"select v, q from t join u", "dim x 0:3 / dim y 1:1 / attr v int / attr q rat / 1 1: ?1, 1/2 / 3 1: 2, 1/2"},
		said{"  select sum(v) as s from t group by y 0:1  ", "dim y 0:1 / attr s int / 0: 12 / 1: 2"},
		said{"select v from t where v > 99", "dim x 0:3 / dim y 0:1 / attr v int"})
	fails(t, s, api.ErrForm, "select v from", "select v v from t", "select \"v\" from t")
	fails(t, s, api.ErrNone, "select * from v")
	fails(t, s, api.ErrName, "select w from t")
	fails(t, s, api.ErrType, "select * from t where v")
	fails(t, s, api.ErrRange, "select * from t[9:, :]")
	fails(t, s, api.ErrShape, "select * from t[1:]")
}

// bigTwo returns a system with two arrays whose cross product has too many cells.
func bigTwo(t *testing.T) *system.System {
	t.Helper()
	s := begun(t)
	does(t, s, "create m; p 0:99; v int", long("m", 70), "create n; q 0:99; w int", long("n", 70))
	return s
}

// Each line with a query has the errors of the query first, those of the translation, and then those of its array.
func TestErrorsOfQueries(t *testing.T) {
	s := bigTwo(t)
	does(t, s, "cluster 1 1")
	for _, line := range []string{"%s", "explain; %s", "stats 1; %s", "stats -1,0; %s", "needs 0:0; %s", "lineage 0; %s", "impact none 0; %s", "let T; %s", "ask 1; %s", "ask -1,0; %s"} {
		fails(t, s, api.ErrNone, fmt.Sprintf(line, "select * from none"))
		fails(t, s, api.ErrName, fmt.Sprintf(line, "select w from m cross n where z = 1"))
		fails(t, s, api.ErrMany, fmt.Sprintf(line, "select * from m cross n"))
		fails(t, s, api.ErrMany, fmt.Sprintf(line, "select * from m[0:70] cross n[0:70] where 1 = 2"))
	}
	for _, line := range []string{"stats 0; %s", "stats 0,0,0; %s", "ask 0; %s", "needs 0:0; %s", "lineage 0; %s", "lineage -; %s", "stats -; %s", "ask -; %s"} {
		fails(t, s, api.ErrShape, fmt.Sprintf(line, "select * from t"))
	}
	fails(t, s, api.ErrArg, "stats -1,0; select * from t", "ask 0,-1; select * from t", "stats 0,-1099511627776; select * from t")
	fails(t, s, api.ErrNone, "lineage 0,1; select * from t", "lineage 9,9; select * from t", "impact t 0,1; select * from t", "impact none 0,0; select * from t", "impact t 0; select * from t", "impact t -; select * from t")
	does(t, s, "create b; x 0:999; v int")
	fails(t, s, api.ErrMany, "stats 3; select * from b", "stats 1; select * from b")
	does(t, s, "stats 4; select * from b", "cluster 1 1")
	fails(t, s, api.ErrMany, "ask 3; select * from b")
}

func TestExplain(t *testing.T) {
	s := two(t)
	says(t, s, said{"explain; select * from t", "t / t / none"},
		said{"explain; select v from t[0:0,:]", "project(sub(t; 0:0, -1073741824:*); v) / sub(t; 0:0, -1073741824:*) / project-all"},
		said{"explain; select v from (select v + 1 as w, v from t) where v > 2 order (x, y)", "transpose(project(filter(project(apply(t; w = (.v + 1)); w, v); (.v > 2)); v); x, y) / filter(t; (.v > 2)) / transpose-same filter-project project-project filter-apply project-apply project-all"})
	fails(t, s, api.ErrNone, "explain; select * from none")
}

// filtered returns a query of n filters above each other, each of which has a scalar with 63 parts, whose string is longer than in the query.
func filtered(n int, source string) string {
	group := strings.Repeat("+1099511627776", 4)[1:]
	by := group + strings.Repeat("+("+group+")", 6) + "+(" + group[:41] + ")=v"
	q := "select * from " + source + " where " + by
	for range n - 1 {
		q = "select * from (" + q + ") where " + by
	}
	return q
}

func TestLongExpressions(t *testing.T) {
	s := begun(t)
	empty := "dim x 0:3 / dim y 0:1 / attr v int"
	says(t, s, said{filtered(8, "t"), empty}, said{"stats 0,0; " + filtered(8, "t"), "boxes 1 chunks 1"})
	does(t, s, "explain; "+filtered(7, "t"), "explain; "+filtered(3, "t concat t on x"))
	fails(t, s, api.ErrLong, "explain; "+filtered(8, "t"))
	// the string of the expression is not too long, but that of the plan, which has each filter twice
	says(t, s, said{filtered(4, "t concat t on x"), strings.Replace(empty, "3", "7", 1)})
	fails(t, s, api.ErrLong, "explain; "+filtered(4, "t concat t on x"))
}

// The answers of stats are those of a store with the same arrays and layouts, whatever the layouts are.
func TestStats(t *testing.T) {
	d := dice(131)
	db := base()
	for range 30 {
		s, store := system.New(), engine.New()
		for _, x := range shuffled(&d, db) {
			creates(t, s, x.Name, x.Array)
			l, text := d.layout(x.Array)
			if e := store.Put(x.Name, x.Array, l); e != api.OK {
				t.Fatal(e)
			}
			does(t, s, "layout "+x.Name+" "+text)
		}
		for _, q := range []string{"select * from t", "select * from t merge t", "select sum(v) as s from w2 regrid by 2, 3", "select * from (select * from o where n > 1)[:3]", "select v, q from t join u where v > 3", "select avg(k) as m from g window 1 0, 0 1"} {
			e, _, f := query.Bind(db, q)
			if f != api.OK {
				t.Fatal(q, f)
			}
			plan, _, _ := engine.Plan(db, e)
			a := must(query.Schema(db, e))
			sides := many(len(a.Dims), func() int { return d.from(0, 3) })
			_, n, f := store.Run(plan, sides)
			if f != api.OK {
				t.Fatal(q, f)
			}
			says(t, s, said{"stats " + commas(sides) + "; " + q, fmt.Sprintf("boxes %d chunks %d", n.Boxes, n.Chunks)}, said{q, shown(must(query.Eval(db, e)))})
		}
	}
}

// commas returns numbers as a list of a line.
func commas(l []int) string {
	if len(l) == 0 {
		return "-"
	}
	return strings.ReplaceAll(strings.Trim(fmt.Sprint(l), "[]"), " ", ",")
}

// shown returns the answer that shows an array.
func shown(a api.Array) string {
	s, e := space.Print(a)
	if e != api.OK {
		panic("an array that is not valid")
	}
	return strings.ReplaceAll(strings.TrimSuffix(s, "\n"), "\n", " / ")
}

// creates gives a system an array with the cells of another one, by lines.
func creates(t *testing.T, s *system.System, name string, a api.Array) {
	t.Helper()
	var dims, attrs []string
	for _, line := range strings.Split(shown(a), " / ") {
		word, rest, _ := strings.Cut(line, " ")
		switch word {
		case "dim":
			dims = append(dims, rest)
		case "attr":
			attrs = append(attrs, rest)
		}
	}
	cells := strings.Split(shown(a), " / ")[len(dims)+len(attrs):]
	does(t, s, "create "+name+"; "+strings.Join(dims, ", ")+"; "+strings.Join(attrs, ", "))
	if len(cells) > 0 {
		does(t, s, "set "+name+"; "+strings.Join(cells, "; "))
	}
}

// layout returns a layout for an array, and its arguments in a line.
func (d *dice) layout(a api.Array) (api.Layout, string) {
	for {
		l := api.Layout{Order: d.from(api.RowMajor, api.Tiled), Form: d.from(api.Dense, api.Coords), Codec: d.from(api.Plain, api.Lz)}
		for range a.Dims {
			side := pick(d, 1, 2, 3, 5, 8, 64)
			l.Sides = append(l.Sides, side)
			l.Overlap = append(l.Overlap, min(pick(d, 0, 0, 1, 2, 16), side))
		}
		order := names("rowmajor", "hilbert", "tiled")[l.Order-1]
		if l.Order == api.Tiled {
			l.Tile = d.from(1, 3)
			order += fmt.Sprint(l.Tile)
		}
		if space.Layout(a.Dims, l) == api.OK {
			return l, fmt.Sprint(commas(l.Sides), " ", commas(l.Overlap), " ", order, " ", names("dense", "runs", "coords")[l.Form-1], " ", names("plain", "rle", "lz")[l.Codec-1])
		}
	}
}

func TestNeedsOfLines(t *testing.T) {
	s := two(t)
	says(t, s, said{"needs 1:1,0:0; select avg(v) as m from t window 1 1, 0 0", "t 0:2, 0:0"}, said{"needs 0:*,0:*; select v, w from t join u", "t 0:3, 1:1 / u 1:1"},
		said{"needs 5:*; select * from u", "u 5:*"}, said{"needs 5:9; select * from u", "u 5:9"}, said{"needs 0:0; select * from u", "none"}, said{"needs 5:1; select count() as n from t group by x 0:9", "none"},
		said{"needs 1:2; select count() as n from u regrid by 3", "u 3:8"}, said{"needs 0:*; select count() as n from u regrid by 3", "u 1:*"}, said{"needs -5:-1,0:0; select v as w from t", "none"})
}

func TestLineageOfLines(t *testing.T) {
	s := two(t)
	says(t, s, said{"lineage 1,1; select v, w from t join u", "t 1, 1 / u 1"}, said{"lineage 0; select sum(v) as s from t group by y 0:1", "t 0, 0 / t 1, 0"}, said{"lineage 4; select * from u", "u 4"},
		said{"impact u 1; select v, w from t join u", "1, 1 / 3, 1"}, said{"impact u 4; select v, w from t join u", "none"}, said{"impact t 0,0; select * from u", "none"}, said{"impact t 1,1; select * from t[1:,:] order (y, x)", "1, 1"},
		said{"impact u 1; select count() as n from u along y", "1 / 4"})
	does(t, s, "pin t 1")
	fails(t, s, api.ErrNone, "lineage 0,0; select * from t", "impact t 0,0; select * from u")
}

func TestMatrices(t *testing.T) {
	s := begun(t)
	does(t, s, "create m; row 0:1, col 0:1; v int", "set m; 0 0: 1; 0 1: 2; 1 0: 3; 1 1: 4", "create n; i 0:1, j 0:0; w rat", "set n; 0 0: 1/2; 1 0: 3", "create b; row 0:0, col 0:1; v int", "set b; 0 1: 1")
	says(t, s, said{"det m", "-2"}, said{"mul m n", "dim row 0:1 / dim col 0:0 / attr v rat / 0 0: 13/2 / 1 0: 27/2"}, said{"solve m n", "dim row 0:1 / dim col 0:0 / attr v rat / 0 0: 2 / 1 0: -3/4"},
		said{"mul n b", "dim row 0:1 / dim col 0:1 / attr v rat / 0 1: 1/2 / 1 1: 3"}, said{"mul b b", errorNumber(api.ErrShape)}, said{"pin m 1", "ok"}, said{"det m", "0"}, said{"mul m n", "dim row 0:1 / dim col 0:0 / attr v rat"})
	fails(t, s, api.ErrSingular, "solve m n")
	fails(t, s, api.ErrNone, "mul u t", "mul t u", "mul u v", "solve u t", "solve t u", "det u", "mul t ?")
	fails(t, s, api.ErrArg, "mul t m", "mul m t", "solve b t", "solve t b", "det t")
	fails(t, s, api.ErrShape, "mul n m", "solve m b", "solve n m", "det n", "det b")
	does(t, s, "unpin m", "set m; 0 0: ?1")
	fails(t, s, api.ErrArg, "mul n m", "mul m n", "solve m n", "det m")
	does(t, s, "set m; 0 0: 1099511627776; 0 1: 0; 1 0: 0; 1 1: 1099511627775")
	says(t, s, said{"det m", "?2"})
	does(t, s, "set n; 1 0: 2")
	fails(t, s, api.ErrOver, "mul m n")
}
