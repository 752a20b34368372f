package engine_test

import (
	"slices"
	"strconv"
	"strings"
	"testing"

	"tesseract/api"
	"tesseract/engine"
	"tesseract/query"
)

// stepsText returns the string of steps: the rules, each with its path.
func stepsText(l []engine.Step) string {
	var out []string
	for _, x := range l {
		s := x.Rule
		for _, k := range x.Path {
			s += " " + strconv.Itoa(k)
		}
		out = append(out, s)
	}
	return strings.Join(out, "; ")
}

// P7.3

func TestPlan(t *testing.T) {
	for _, x := range [][3]string{
		// the example of the chapter
		{"sub(project(apply(t; w = (.v + 1)); v); 1:3, 0:1)", "sub(t; 1:3, 0:1)", "sub-project; sub-apply 0; project-apply; project-all"},
		{"t", "t", ""},
		{"window(t; 1:1, 0:0; sum(v) as s)", "window(t; 1:1, 0:0; sum(v) as s)", ""},
		{"filter(sub(join(t, u); 0:1, 0:0); (.v > 5))", "join(filter(sub(t; 0:1, 0:0); (.v > 5)), sub(u; 0:0))", "sub-join 0; filter-join"},
		// a node comes before its operands, and the first operand before the second one
		{"merge(filter(t2; true), filter(t; true))", "merge(t2, t)", "filter-true 0; filter-true 1"},
		{"merge(filter(t; true), filter(t; true))", "t", "merge-same; filter-true"},
		{"merge(filter(filter(t; true); true), filter(t; true))", "t", "filter-true 0; merge-same; filter-true"},
		{"merge(merge(t, sub(t; 0:3, 0:1)), t2)", "merge(t, t2)", "sub-whole 0 1; merge-same 0"},
		// of several rules the first one is applied
		{"sub(filter(t; (.v > 1)); 0:3, 0:1)", "filter(t; (.v > 1))", "sub-whole"},
		{"sub(sub(t; 0:2, 0:1); 0:9, 0:9)", "sub(t; 0:2, 0:1)", "sub-sub"},
		{"filter(filter(t; (.v > 1)); true)", "filter(t; (.v > 1))", "filter-true"},
		{"project(project(t; v); v)", "t", "project-project; project-all"},
		{"transpose(transpose(t; y, x); x, y)", "t", "transpose-transpose; transpose-same"},
		// a rule can be applied again below what it made
		{"sub(window(filter(t; (.v > 1)); 1:0, 0:0; sum(v) as s); 3:3, 0:1)", "sub(window(filter(sub(t; 2:3, 0:1); (.v > 1)); 1:0, 0:0; sum(v) as s); 3:3, 0:1)", "sub-window; sub-filter 0 0"},
		{"sub(regrid(regrid(o; 2; count() as c); 3; sum(c) as c); 0:4)", "regrid(sub(o; 0:29); 6; count() as c)", "sub-regrid; sub-regrid 0; regrid-regrid"},
	} {
		e, steps, f := engine.Plan(base(), read(x[0]))
		if f != api.OK || text(e) != x[1] || stepsText(steps) != x[2] {
			t.Errorf("%s: %d %s by %s, not %s by %s", x[0], f, text(e), stepsText(steps), x[1], x[2])
		}
	}
}

func TestPlanRefuses(t *testing.T) {
	for _, x := range []struct {
		e    api.Expr
		want api.Errno
	}{
		{scan("none"), api.ErrNone},
		{read("filter(project(t; w); true)"), api.ErrName},
		{read("sub(filter(t; true); 4:9, 0:1)"), api.ErrRange},
		{api.Expr{}, api.ErrArg},
	} {
		if e, steps, f := engine.Plan(base(), x.e); f != x.want || !isZeroExpr(e) || len(steps) != 0 {
			t.Error(x.e, e, steps, f)
		}
	}
	for k, db := range spoiled() {
		if e, steps, f := engine.Plan(db, scan("t")); f != api.ErrArg || !isZeroExpr(e) || len(steps) != 0 {
			t.Error(k, e, steps, f)
		}
	}
}

// over returns the string of an expression below so many renames, of which no rule makes anything.
func over(s, name string, times int) string {
	for range times {
		s = "rename(" + s + "; " + name + ", " + name + ")"
	}
	return s
}

// shelf is a database of arrays with the same cells, whose names are used one after the other.
type shelf struct {
	db   api.DB
	used int
}

// newShelf returns a shelf with as many arrays as a database can have.
func newShelf() *shelf {
	var s shelf
	for k := range api.MaxArrays {
		s.db = with(s.db, letters[k:k+1], parse(table))
	}
	return &s
}

// next returns the name of the next array.
func (s *shelf) next() string {
	s.used++
	return s.db[s.used%len(s.db)].Name
}

// merged returns the string of n merges in a tree that is not deep, none of which has equal operands.
func (s *shelf) merged(n int) string {
	if n == 0 {
		return s.next()
	}
	return "merge(" + s.merged((n-1)/2) + ", " + s.merged(n-1-(n-1)/2) + ")"
}

// The whole expression must be well-formed behind a step, whatever a rule makes of the node alone.
func TestPlanLimits(t *testing.T) {
	cut := "sub(window(t; 1:0, 0:0; sum(v) as s); 3:3, 0:1)"
	for times := range 10 {
		e, steps, f := engine.Plan(base(), read(over(cut, "s", times)))
		if times < 9 && (f != api.OK || len(steps) != 1 || specDepth(e) != times+4) {
			t.Error(times, f, steps)
		}
		if times == 9 && (f != api.OK || len(steps) != 0 || text(e) != over(cut, "s", times)) {
			t.Error("the depth became 13", f, steps)
		}
	}
	for _, x := range []struct {
		merges, renames, nodes int
		steps                  string
	}{{28, 0, 62, "filter-concat 0"}, {28, 1, 63, "filter-concat 0"}, {29, 0, 64, ""}} {
		s := newShelf()
		e := read("merge(filter(concat(a, b; x); (@y = 1)), " + over(s.merged(x.merges), "v", x.renames) + ")")
		if specNodes(e) != x.nodes {
			t.Fatal(specNodes(e))
		}
		out, steps, f := engine.Plan(s.db, e)
		if f != api.OK || stepsText(steps) != x.steps || specNodes(out) != x.nodes+len(steps) {
			t.Error(x, f, stepsText(steps))
		}
		if _, is := engine.Rewrite(s.db, e.Args[0], "filter-concat"); !is {
			t.Error("the rule can be applied to the node alone")
		}
	}
}

// chain returns the string of so many filters over so many renames. The scalars are so deep that two filters cannot become one:
// so each filter is moved below each rename, in a step.
func (s *shelf) chain(filters, renames int) string {
	out := over(s.next(), "v", renames)
	for k := range filters {
		out = "filter(" + out + "; " + strings.Repeat("not(", 10) + "(.v > " + strconv.Itoa(k) + ")" + strings.Repeat(")", 10) + ")"
	}
	return out
}

// A plan ends after MaxSteps steps, also if a rule could still be applied.
func TestPlanSteps(t *testing.T) {
	for _, x := range []struct{ fifth, sixth, steps, more int }{{4, 4, 96, 0}, {4, 5, 100, 0}, {5, 5, engine.MaxSteps, 4}} {
		s := newShelf()
		one := func() string { return s.chain(4, 4) }
		e := read("merge(merge(merge(" + one() + ", " + one() + "), merge(" + one() + ", " + one() + ")), merge(" + s.chain(x.fifth, 4) + ", " + s.chain(x.sixth, 4) + "))")
		out, steps, f := engine.Plan(s.db, e)
		if f != api.OK || len(steps) != x.steps {
			t.Error(x, f, len(steps))
		}
		again, more, f := engine.Plan(s.db, out)
		if f != api.OK || len(more) != x.more || (text(again) == text(out)) != (x.more == 0) {
			t.Error(x, f, len(more))
		}
		expectSame(t, s.db, e, out)
	}
}

// expectSame checks that two expressions denote the same array, if the first one denotes an array, and reports whether it does, with cells.
func expectSame(t *testing.T, db api.DB, e, out api.Expr) bool {
	t.Helper()
	a, f := query.Eval(db, e)
	if f != api.OK {
		return false
	}
	b, g := query.Eval(db, out)
	expect(t, text(e)+" as "+text(out), b, g, a, api.OK)
	return len(a.Cells) > 0
}

// specStep returns the first step of the plan of an expression, and what it makes; false if there is none.
func specStep(db api.DB, e api.Expr) (engine.Step, api.Expr, bool) {
	var step engine.Step
	var out api.Expr
	var visit func(part api.Expr, path []int, whole func(api.Expr) api.Expr) bool
	visit = func(part api.Expr, path []int, whole func(api.Expr) api.Expr) bool {
		for _, rule := range ruleNames() {
			if !hasForm(rule, part) {
				continue
			}
			if x, is := engine.Rewrite(db, part, rule); is && query.Check(whole(x)) == api.OK {
				step, out = engine.Step{Rule: rule, Path: path}, whole(x)
				return true
			}
		}
		for k, x := range part.Args {
			inWhole := func(x api.Expr) api.Expr {
				y := part
				y.Args = slices.Clone(part.Args)
				y.Args[k] = x
				return whole(y)
			}
			if visit(x, slices.Concat(path, list(k)), inWhole) {
				return true
			}
		}
		return false
	}
	is := visit(e, nil, func(x api.Expr) api.Expr { return x })
	return step, out, is
}

// P7.3, P7.9

func TestPlanStepByStep(t *testing.T) {
	d := dice(74)
	long, denoted := 0, 0
	for range 1500 {
		db := d.filled(base())
		e := d.candidate(db, pick(&d, ruleNames()...))
		if x, is := d.above(db, e, pick(&d, api.ESub, api.EFilter, api.EProject, api.ETranspose), 2); is {
			e = x
		}
		out, steps, f := engine.Plan(db, e)
		if f != api.OK {
			t.Fatal(text(e), f)
		}
		now := e
		for k, x := range steps {
			step, next, is := specStep(db, now)
			if !is || stepsText([]engine.Step{step}) != stepsText(steps[k:k+1]) {
				t.Fatalf("%s: %v, not %v", text(now), x, step)
			}
			now = next
		}
		if _, _, is := specStep(db, now); is || text(out) != text(now) {
			t.Fatalf("%s: %s, not %s, which can be rewritten: %v", text(e), text(out), text(now), is)
		}
		if len(steps) > 3 {
			long++
		}
		if expectSame(t, db, e, out) && len(steps) > 0 {
			denoted++
		}
	}
	if long < 50 || denoted < 50 {
		t.Error(long, denoted)
	}
}
