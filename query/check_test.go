package query_test

import (
	"slices"
	"testing"

	"tesseract/api"
	"tesseract/query"
)

// P6.1

// column is a field of an expression: its letter, and how it is set.
type column struct {
	letter rune
	set    func(e *api.Expr)
}

// columns are the fields of an expression, those with several parts several times.
func columns() []column {
	return []column{
		{'n', func(e *api.Expr) { e.Name = "x" }},
		{'N', func(e *api.Expr) { e.Names = names("x", "y") }},
		{'L', func(e *api.Expr) { e.Lo = list(0) }},
		{'H', func(e *api.Expr) { e.Hi = list(0) }},
		{'D', func(e *api.Expr) { e.Dims = dims(dim("x", 0, 1)) }},
		{'S', func(e *api.Expr) { e.By = use("v") }},
		{'S', func(e *api.Expr) { e.By = api.Scalar{Op: api.SConst} }},
		{'S', func(e *api.Expr) { e.By = api.Scalar{Name: "v"} }},
		{'S', func(e *api.Expr) { e.By = api.Scalar{Val: none(1)} }},
		{'S', func(e *api.Expr) { e.By = api.Scalar{Args: []api.Scalar{{}}} }},
		{'A', func(e *api.Expr) { e.Aggs = aggs(of(api.Sum, "v", "s")) }},
		{'R', func(e *api.Expr) { e.Rule = api.First }},
		{'R', func(e *api.Expr) { e.Rule = -1 }},
	}
}

// fields are the letters of the fields that the operations use.
var fields = map[int]string{
	api.EScan: "n", api.ESub: "LH", api.EFilter: "S", api.EApply: "nS", api.EProject: "N", api.ERename: "N", api.EReshape: "D", api.ETranspose: "N",
	api.EConcat: "n", api.EJoin: "", api.ECross: "", api.EMerge: "", api.ERedim: "DNR", api.EGroup: "DA", api.ERegrid: "LA", api.EWindow: "LHA",
	api.EVary: "nLHA", api.ECumulate: "nA", api.ERank: "nN",
}

// plain returns a well-formed node of an operation, over scans.
func plain(n int) api.Expr {
	e := api.Expr{Op: n}
	for _, c := range columns() {
		for _, letter := range fields[n] {
			if c.letter == letter {
				c.set(&e)
			}
		}
	}
	if e.By.Op != 0 || len(e.By.Args) > 0 {
		e.By = op(api.SGt, use("v"), constant(num(2)))
	}
	if n == api.ERedim {
		e.Rule = api.Fail
	}
	for range operands(n) {
		e.Args = append(e.Args, scan("t"))
	}
	return e
}

// checks compares Check with an error, for the node alone and below another one.
func checks(t *testing.T, what any, e api.Expr, want api.Errno) {
	t.Helper()
	if f := query.Check(e); f != want {
		t.Errorf("%v: %+v: error %d, not %d", what, e, f, want)
	}
	if f := query.Check(only(e, "v")); f != want {
		t.Errorf("%v, as an operand: error %d, not %d", what, f, want)
	}
	if f := query.Check(merged(scan("t"), e)); f != want {
		t.Errorf("%v, as a second operand: error %d, not %d", what, f, want)
	}
}

func TestCheckFields(t *testing.T) {
	for n := api.EScan; n <= api.ERank; n++ {
		e := plain(n)
		checks(t, n, e, api.OK)
		for k, c := range columns() {
			used := slices.Contains([]rune(fields[n]), c.letter)
			x := plain(n)
			c.set(&x)
			if !used {
				checks(t, []int{n, k}, x, api.ErrArg)
			}
		}
		for _, letter := range fields[n] {
			x := plain(n)
			switch letter {
			case 'n':
				x.Name = ""
			case 'N':
				x.Names = nil
			case 'L':
				x.Lo = nil
			case 'H':
				x.Hi = nil
			case 'D':
				x.Dims = nil
			case 'S':
				x.By = api.Scalar{}
			case 'A':
				x.Aggs = nil
			case 'R':
				x.Rule = 0
			}
			checks(t, "without "+string(letter), x, api.ErrArg)
		}
		for count := range 5 {
			x := plain(n)
			x.Args = slices.Repeat(args(scan("t")), count)
			if count != operands(n) {
				checks(t, []int{n, -count}, x, api.ErrArg)
			}
		}
		x := plain(n)
		x.Names, x.Lo, x.Hi, x.Dims, x.Aggs, x.Args = append(names(), x.Names...), append(list(), x.Lo...), append(list(), x.Hi...), append(dims(), x.Dims...), append(aggs(), x.Aggs...), append(args(), x.Args...)
		checks(t, "empty lists", x, api.OK)
	}
	for _, n := range append([]int{0, -1, api.ERank + 1, 99}, farNumbers...) {
		checks(t, "an operation that is none", api.Expr{Op: n}, api.ErrArg)
		checks(t, "an operation that is none", api.Expr{Op: n, Args: args(scan("t"))}, api.ErrArg)
	}
}

func TestCheckNumbers(t *testing.T) {
	six := names("a", "b", "c", "d", "e", "f")
	for n, most := range map[int]int{api.EProject: 6, api.ETranspose: 4, api.ERedim: 6, api.ERank: 5, api.ERename: 2} {
		for count := range 8 {
			e := plain(n)
			e.Names = append(slices.Clone(six), "g")[:min(count, 7)]
			want := api.ErrArg
			if count >= 1 && count <= most && (n != api.ERename || count == 2) {
				want = api.OK
			}
			checks(t, []int{n, count}, e, want)
		}
	}
	for _, n := range list(api.ESub, api.EWindow, api.EVary) {
		for lo := range 6 {
			for hi := range 6 {
				e := plain(n)
				e.Lo, e.Hi = append(list(), farNumbers[:lo]...), append(list(), farNumbers[:hi]...)
				want := api.ErrArg
				if lo == hi && lo >= 1 && lo <= 4 && (n != api.EVary || lo == 1) {
					want = api.OK
				}
				checks(t, []int{n, lo, hi}, e, want)
			}
		}
	}
	for count := range 7 {
		e := plain(api.ERegrid)
		e.Lo = append(list(), farNumbers[:min(count, 6)]...)
		want := api.ErrArg
		if count >= 1 && count <= 4 {
			want = api.OK
		}
		checks(t, count, e, want)
		for _, n := range list(api.EReshape, api.ERedim, api.EGroup) {
			e := plain(n)
			e.Dims = slices.Repeat(dims(dim("x", 0, 1)), count)
			checks(t, []int{n, count}, e, want)
		}
	}
	for n := api.EGroup; n <= api.ECumulate; n++ {
		for count := range 9 {
			e := plain(n)
			e.Aggs = slices.Repeat(aggs(of(api.Count, "", "n")), count)
			want := api.ErrArg
			if count >= 1 && count <= 6 {
				want = api.OK
			}
			checks(t, []int{n, count}, e, want)
		}
	}
	for _, x := range append(list(0, 4, -1), farNumbers...) {
		e := plain(api.ERedim)
		e.Rule = x
		checks(t, x, e, api.ErrArg)
	}
}

func TestCheckParts(t *testing.T) {
	bad := names("", "X", "aB", "1", "_a", "a b", "a-", "abcdefghi_123", "\xc3\xa9", "a\n")
	good := names("x", "v", "select", "group", longName, "a1_", "z")
	for want, l := range map[api.Errno][]string{api.ErrArg: bad, api.OK: good} {
		for _, s := range l {
			for n := api.EScan; n <= api.ERank; n++ {
				for _, letter := range fields[n] {
					switch e := plain(n); letter {
					case 'n':
						e.Name = s
						checks(t, n, e, want)
					case 'N':
						e.Names[len(e.Names)-1] = s
						checks(t, n, e, want)
					case 'D':
						e.Dims = dims(dim("x", 0, 1), dim(s, 0, 1))
						checks(t, n, e, want)
					case 'A':
						e.Aggs = aggs(of(api.Sum, "v", "s"), of(api.Sum, "v", s))
						checks(t, n, e, want)
						e.Aggs = aggs(of(api.Sum, s, "s"))
						checks(t, n, e, want)
						e.Aggs = aggs(of(api.Count, s, "s"))
						if s != "" {
							checks(t, n, e, want)
						}
					case 'S':
						e.By = op(api.SEq, constant(num(1)), op(api.SNeg, use(s)))
						checks(t, n, e, want)
						e.By = along(s)
						checks(t, n, e, want)
					}
				}
			}
		}
	}
	for _, x := range []struct {
		d    api.Dim
		want api.Errno
	}{
		{dim("x", 0, 0), api.OK}, {dim("x", -api.MaxCoord, api.Open), api.OK}, {dim("x", api.MaxCoord, api.Open), api.OK}, {dim("x", api.MaxCoord, api.MaxCoord), api.OK},
		{dim("x", 1, 0), api.ErrArg}, {dim("x", -api.MaxCoord-1, 0), api.ErrArg}, {dim("x", 0, api.Open+1), api.ErrArg}, {dim("x", api.Open, api.Open), api.ErrArg},
		{dim("x", farNumbers[0], farNumbers[5]), api.ErrArg},
	} {
		e := plain(api.EReshape)
		e.Dims = dims(dim("x", 0, 1), x.d)
		checks(t, x.d, e, x.want)
	}
	for _, x := range []struct {
		a    api.Agg
		want api.Errno
	}{
		{of(api.Count, "", "n"), api.OK}, {of(api.Distinct, "v", "n"), api.OK}, {of(0, "v", "n"), api.ErrArg}, {of(8, "v", "n"), api.ErrArg}, {of(farNumbers[0], "v", "n"), api.ErrArg},
		{of(api.Sum, "", "n"), api.ErrArg}, {of(api.Distinct, "", "n"), api.ErrArg}, {of(api.Count, "", ""), api.ErrArg}, {of(api.Count, "n", "n"), api.OK},
	} {
		e := plain(api.ECumulate)
		e.Aggs = aggs(x.a)
		checks(t, x.a, e, x.want)
	}
}

// tower returns a scalar with a depth, and brush one with a number of parts.
func tower(depth int) api.Scalar {
	s := use("v")
	for range depth - 1 {
		s = op(api.SNeg, s)
	}
	return s
}

func brush(parts int) api.Scalar {
	if parts <= 2 {
		return tower(parts)
	}
	return op(api.SAdd, brush((parts-1)/2), brush(parts-1-(parts-1)/2))
}

func TestCheckScalars(t *testing.T) {
	endless := []api.Scalar{op(api.SNeg)}
	endless[0].Args = endless
	shared := use("v")
	for range 200 {
		l := []api.Scalar{shared, shared}
		shared = api.Scalar{Op: api.SAdd, Args: l}
	}
	for k, x := range []struct {
		s    api.Scalar
		want api.Errno
	}{
		{tower(12), api.OK}, {tower(13), api.ErrArg}, {tower(20000), api.ErrArg}, {brush(63), api.OK}, {brush(64), api.OK}, {brush(65), api.ErrArg},
		{endless[0], api.ErrArg}, {shared, api.ErrArg}, {api.Scalar{}, api.ErrArg}, {op(api.SIf, use("a"), use("b")), api.ErrArg}, {constant(none(1)), api.ErrArg},
		{constant(api.Val{}), api.ErrArg}, {constant(rat(2, 4)), api.ErrArg}, {constant(rat(1, 2)), api.OK}, {constant(boolean(false)), api.OK},
		{op(api.SNot, api.Scalar{Op: 23}), api.ErrArg}, {api.Scalar{Op: api.SAttr, Name: "v", Args: []api.Scalar{use("v")}}, api.ErrArg},
	} {
		for _, n := range list(api.EFilter, api.EApply) {
			e := plain(n)
			e.By = x.s
			checks(t, k, e, x.want)
			if s, f := query.PrintScalar(x.s); f != x.want || (s == "") != (f != api.OK) {
				t.Error(k, s, f)
			}
		}
	}
}

// full returns an expression that has a depth and a number of nodes.
func full(depth, count int) api.Expr {
	if depth == 1 {
		return scan("t")
	}
	// The first operand gets as many nodes as it can have, the second one the rest.
	first := min(count-2, 1<<(depth-1)-1)
	if count == depth {
		return only(full(depth-1, count-1), "v")
	}
	rest := count - 1 - first
	d := 1
	for 1<<d-1 < rest {
		d++
	}
	return merged(full(depth-1, first), full(d, rest))
}

func TestCheckLimits(t *testing.T) {
	for _, x := range []struct{ depth, nodes int }{{1, 1}, {2, 2}, {2, 3}, {12, 12}, {13, 13}, {7, 64}, {7, 65}, {7, 127}, {12, 64}, {12, 65}, {13, 64}, {13, 65}, {12, 4095}, {14, 30}} {
		e := full(x.depth, x.nodes)
		if query.Depth(e) != x.depth || query.Nodes(e) != x.nodes || specDepth(e) != x.depth || specNodes(e) != x.nodes {
			t.Fatal(x, query.Depth(e), query.Nodes(e))
		}
		want := api.OK
		if x.depth > 12 {
			want = api.ErrDeep
		} else if x.nodes > 64 {
			want = api.ErrMany
		}
		if f := query.Check(e); f != want {
			t.Error(x, f)
		}
		// A node that is not well-formed is found behind both.
		at := &e
		for len(at.Args) > 0 {
			at = &at.Args[len(at.Args)-1]
		}
		at.Name = ""
		if want == api.OK {
			want = api.ErrArg
		}
		if f := query.Check(e); f != want {
			t.Error(x, "not well-formed", f)
		}
	}
	wide := api.Expr{Op: api.EScan, Name: "t"}
	for n := range 200 {
		if query.Depth(wide) != min(2, n+1) || query.Nodes(wide) != n+1 {
			t.Fatal(n)
		}
		if f := query.Check(wide); n >= 64 && f != api.ErrMany || n >= 1 && n < 64 && f != api.ErrArg || n == 0 && f != api.OK {
			t.Fatal(n, f)
		}
		wide.Args = append(wide.Args, api.Expr{})
	}
}

func TestCheckShared(t *testing.T) {
	e := scan("t")
	for depth := 2; depth <= 300; depth++ {
		e = merged(e, e)
		if query.Depth(e) != depth {
			t.Fatal(depth, query.Depth(e))
		}
		if n := query.Nodes(e); depth <= 62 && n != 1<<depth-1 || n < 1<<62-1 && depth > 62 {
			t.Fatal(depth, n)
		}
		want := api.OK
		if depth > 12 {
			want = api.ErrDeep
		} else if depth > 6 {
			want = api.ErrMany
		}
		if f := query.Check(e); f != want {
			t.Fatal(depth, f)
		}
	}
	low := scan("t")
	for range 1 << 16 {
		low = only(low, "v")
	}
	if query.Depth(low) != 1<<16+1 || query.Nodes(low) != 1<<16+1 || query.Check(low) != api.ErrDeep {
		t.Error(query.Depth(low), query.Nodes(low))
	}
	endless := args(merged(scan("t"), scan("t")), scan("t"))
	endless[1].Args = endless
	if query.Check(endless[0]) != api.OK || query.Check(endless[1]) != api.ErrDeep || query.Check(merged(scan("t"), endless[1])) != api.ErrDeep {
		t.Error("an expression without an end")
	}
	if query.Depth(endless[1]) <= api.MaxDepth || query.Nodes(endless[1]) <= api.MaxNodes || query.Same(endless[1], endless[1]) || len(query.Scans(endless[1])) > 0 {
		t.Error("an expression without an end")
	}
	if _, f := query.Eval(base(), endless[1]); f != api.ErrDeep {
		t.Error(f)
	}
	if _, f := query.Print(endless[1]); f != api.ErrDeep {
		t.Error(f)
	}
}

func TestCheckAny(t *testing.T) {
	d := dice(1)
	for range 3000 {
		e := d.expr(d.from(1, 8))
		if query.Check(e) != api.OK || query.Depth(e) != specDepth(e) || query.Nodes(e) != specNodes(e) {
			t.Fatal(query.Check(e), e)
		}
		room := deep(e)
		query.Check(room)
		query.Same(room, room)
		query.Scans(room)
		query.Print(room)
		query.Eval(base(), room)
		if !sameRoom(room, e) {
			t.Fatal("an argument was changed")
		}
	}
}

// sameRoom reports whether a is what deep returned for b, also behind the ends.
func sameRoom(a, b api.Expr) bool {
	b = deep(b)
	same := slices.Equal(a.Names[:cap(a.Names)], b.Names[:cap(b.Names)]) && slices.Equal(a.Lo[:cap(a.Lo)], b.Lo[:cap(b.Lo)]) && slices.Equal(a.Hi[:cap(a.Hi)], b.Hi[:cap(b.Hi)])
	same = same && slices.Equal(a.Dims[:cap(a.Dims)], b.Dims[:cap(b.Dims)]) && slices.Equal(a.Aggs[:cap(a.Aggs)], b.Aggs[:cap(b.Aggs)])
	same = same && sameExpr(a, b) && slices.EqualFunc(a.Args[:cap(a.Args)], b.Args[:cap(b.Args)], sameExpr)
	for k := range a.Args {
		same = same && sameRoom(a.Args[k], b.Args[k])
	}
	return same
}

// P6.2

func TestSame(t *testing.T) {
	d := dice(2)
	var l []api.Expr
	for n := api.EScan; n <= api.ERank; n++ {
		l = append(l, plain(n))
		for range 10 {
			e := d.node(n)
			e.Args = many(&d, operands(n), operands(n), func() api.Expr { return d.expr(2) })
			l = append(l, e)
		}
	}
	for i, a := range l {
		for k, b := range l {
			if query.Same(a, deep(b)) != sameExpr(a, b) || i == k && !query.Same(a, deep(b)) {
				t.Fatal(a, b)
			}
		}
	}
}

func TestSameFields(t *testing.T) {
	d := dice(3)
	differ := 0
	for range 4000 {
		a := d.expr(d.from(1, 4))
		b := deep(a)
		change := changes(&b)
		change[d.from(0, len(change)-1)]()
		want := query.Check(b) == api.OK && sameExpr(a, b)
		if query.Same(a, b) != want || query.Same(b, a) != want || query.Same(b, b) != (query.Check(b) == api.OK) {
			t.Fatal(a, b)
		}
		if query.Check(b) == api.OK && !want {
			differ++
		}
	}
	if differ < 1000 {
		t.Error("too few expressions differed:", differ)
	}
	for _, e := range []api.Expr{{}, {Op: 20}, {Op: api.EScan, Name: "T"}, full(13, 13), full(7, 65)} {
		if query.Same(e, e) || query.Same(e, scan("t")) || query.Same(scan("t"), e) {
			t.Error("the same, but not well-formed", e)
		}
	}
	a, b := plain(api.ESub), plain(api.ESub)
	a.Names, a.Dims, a.Aggs, a.By.Args, a.Args[0].Args = names(), dims(), aggs(), []api.Scalar{}, args()
	if !query.Same(a, b) || !query.Same(b, a) {
		t.Error("empty lists are not the same as none")
	}
}

// changes returns functions that change one field of a node of an expression each.
func changes(e *api.Expr) []func() {
	out := []func(){
		func() { e.Op = e.Op%19 + 1 },
		func() { e.Rule = e.Rule%3 + 1 },
		func() { e.Name = e.Name + "a" },
	}
	add := func(has bool, f func()) {
		if has {
			out = append(out, f, f, f)
		}
	}
	add(e.Name != "", func() { e.Name = "q" })
	add(len(e.Names) > 0, func() { e.Names[len(e.Names)-1] = "q" })
	add(len(e.Names) > 1, func() { e.Names = e.Names[1:] })
	add(len(e.Lo) > 0, func() { e.Lo[len(e.Lo)-1]++ })
	add(len(e.Hi) > 0, func() { e.Hi[0]-- })
	add(len(e.Lo) > 1 && len(e.Hi) > 1, func() { e.Lo, e.Hi = e.Lo[1:], e.Hi[1:] })
	add(len(e.Dims) > 0, func() { e.Dims[0].Name = "q" })
	add(len(e.Dims) > 0, func() { e.Dims[len(e.Dims)-1].Lo-- })
	add(len(e.Dims) > 0, func() { e.Dims[len(e.Dims)-1].Hi = api.Open })
	add(len(e.Aggs) > 0, func() { e.Aggs[0].Fn = e.Aggs[0].Fn%7 + 1 })
	add(len(e.Aggs) > 0, func() { e.Aggs[len(e.Aggs)-1].Attr = "q" })
	add(len(e.Aggs) > 0, func() { e.Aggs[0].As = "q" })
	add(len(e.By.Args) > 0, func() { e.By.Args[0] = use("q") })
	add(e.By.Op != 0, func() { e.By = op(api.SNeg, e.By) })
	add(len(e.Args) > 1, func() { slices.Reverse(e.Args) })
	for k := range e.Args {
		out = append(out, changes(&e.Args[k])...)
	}
	return out
}

func TestScans(t *testing.T) {
	for s, want := range map[string][]string{
		"t":                                   names("t"),
		"join(merge(u, t), u)":                names("t", "u"),
		"project(filter(t; .v); v)":           names("t"),
		"apply(a; b = .c)":                    names("a"),
		"concat(b2, cross(a, join(b, b)); c)": names("a", "b", "b2"),
		"merge(b, merge(b_, merge(b1, ba)))":  names("b", "b1", "b_", "ba"),
	} {
		l := query.Scans(read(s))
		if !slices.Equal(l, want) {
			t.Error(s, l)
		}
	}
	for _, e := range []api.Expr{{}, {Op: api.EScan}, {Op: api.EScan, Name: "t", Rule: 1}, only(scan("t")), merged(scan("t"), scan("T")), full(13, 13), full(7, 65)} {
		if l := query.Scans(e); len(l) != 0 {
			t.Error(e, l)
		}
	}
	d := dice(4)
	for range 1000 {
		e := d.expr(6)
		var want []string
		collect(e, &want)
		slices.Sort(want)
		if l := query.Scans(e); !slices.Equal(l, slices.Compact(want)) {
			t.Fatal(e, l)
		}
	}
}

func collect(e api.Expr, out *[]string) {
	if e.Op == api.EScan {
		*out = append(*out, e.Name)
	}
	for _, x := range e.Args {
		collect(x, out)
	}
}
