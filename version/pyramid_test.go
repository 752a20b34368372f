package version_test

import (
	"fmt"
	"math"
	"slices"
	"testing"

	"tesseract/agg"
	"tesseract/api"
	"tesseract/version"
)

// countOf is an aggregate that counts cells.
func countOf(as string) []api.Agg { return []api.Agg{{Fn: api.Count, As: as}} }

// peak is what a pyramid must be: its array, and what its levels are made by.
type peak struct {
	a       api.Array
	factors []int
	levels  int
	aggs    []api.Agg
}

// powers returns powers of the factors.
func (x peak) powers(n int) []int {
	out := slices.Repeat(list(1), len(x.factors))
	for range n {
		for k, f := range x.factors {
			out[k] *= f
		}
	}
	return out
}

// compares checks the levels of a pyramid.
func (x peak) compares(t *testing.T, p *version.Pyramid) {
	t.Helper()
	a, e := p.Level(0)
	expectArray(t, "Level 0", a, e, x.a)
	for k := 1; k <= x.levels; k++ {
		a, e := p.Level(k)
		expectArray(t, k, a, e, must(agg.Regrid(x.a, x.powers(k), x.aggs)))
	}
	for _, k := range list(-1, x.levels+1, math.MinInt, math.MaxInt) {
		a, e := p.Level(k)
		expectError(t, k, a, e, api.ErrRange)
	}
}

// blocks returns how many blocks of the levels have coordinates at which two arrays have different states.
func (x peak) blocks(b api.Array) int {
	n := 0
	for k := 1; k <= x.levels; k++ {
		met := map[string]bool{}
		for _, c := range specDelta(x.a, b) {
			var at []int
			for i, f := range x.powers(k) {
				at = append(at, int(math.Floor(float64(c.At[i])/float64(f))))
			}
			met[fmt.Sprint(at)] = true
		}
		n += len(met)
	}
	return n
}

// The chapter's example.
func TestPyramidExample(t *testing.T) {
	p, e := version.Build(parse(table), list(2, 2), 2, countOf("n"))
	if e != api.OK {
		t.Fatal(e)
	}
	one, e := p.Level(1)
	expectArray(t, 1, one, e, parse("dim x 0:1\ndim y 0:0\nattr n int\n0 0: 3\n1 0: 1\n"))
	two, e := p.Level(2)
	expectArray(t, 2, two, e, parse("dim x 0:0\ndim y 0:0\nattr n int\n0 0: 4\n"))
	if n, e := p.Change(changes("0 1: 3")); n != 2 || e != api.OK {
		t.Error(n, e)
	}
	two, e = p.Level(2)
	expectArray(t, 2, two, e, parse("dim x 0:0\ndim y 0:0\nattr n int\n0 0: 5\n"))
}

// P8.8

func TestBuildErrors(t *testing.T) {
	a := parse(table)
	good := countOf("n")
	for _, x := range []struct {
		what    string
		a       api.Array
		factors []int
		levels  int
		aggs    []api.Agg
		want    api.Errno
	}{
		{"no levels", a, list(2), 0, nil, api.ErrRange},
		{"levels below 0", a, list(2, 2), math.MinInt, good, api.ErrRange},
		{"too many levels", a, list(2), version.MaxLevels + 1, nil, api.ErrRange},
		{"far too many levels", a, list(2, 2), math.MaxInt, good, api.ErrRange},
		{"no factors", a, nil, 1, good, api.ErrShape},
		{"a factor too few", a, list(0), 1, nil, api.ErrShape},
		{"a factor too many", a, list(2, 2, 0), 1, good, api.ErrShape},
		{"a factor of 0", a, list(2, 0), 1, nil, api.ErrRange},
		{"a factor below 0", a, list(-2, 2), 2, good, api.ErrRange},
		{"the least factor", a, list(math.MinInt, 2), 2, good, api.ErrRange},
		{"a factor above the limit", a, list(2, api.MaxCoord+1), 1, nil, api.ErrRange},
		{"a square above the limit", a, list(2, 1<<15+1), 2, good, api.ErrRange},
		{"a square that no word holds", a, list(1<<32, 1), 2, good, api.ErrRange},
		{"a power that no word holds", a, list(1, math.MaxInt), 6, good, api.ErrRange},
		{"a power above the limit", a, list(33, 1), 6, good, api.ErrRange},
		{"no aggregates", a, list(2, 2), 1, nil, api.ErrMany},
		{"too many aggregates", a, list(2, 2), 1, slices.Repeat(good, 7), api.ErrMany},
		{"no function", a, list(2, 2), 2, []api.Agg{{As: "n"}}, api.ErrArg},
		{"no attribute", a, list(2, 2), 2, []api.Agg{{Fn: api.Sum, Attr: "w", As: "n"}}, api.ErrName},
		{"a dimension's name", a, list(2, 2), 2, countOf("x"), api.ErrName},
		{"a name twice", a, list(2, 2), 2, slices.Repeat(good, 2), api.ErrName},
		{"a sum of texts", parse("dim x 0:3\nattr v text\n"), list(2), 2, []api.Agg{{Fn: api.Sum, Attr: "v", As: "n"}}, api.ErrType},
		{"the greatest factor", a, list(api.MaxCoord, 1), 1, good, api.OK},
		{"the greatest square", a, list(1, 1<<15), 2, good, api.OK},
		{"the greatest power", a, list(32, 32), 6, good, api.OK},
	} {
		p, e := version.Build(x.a, x.factors, x.levels, x.aggs)
		if e != x.want || (p != nil) != (e == api.OK) {
			t.Errorf("%s: error %d, not %d", x.what, e, x.want)
		}
		for _, bad := range spoiled() {
			if p, e := version.Build(bad, x.factors, x.levels, x.aggs); p != nil || e != api.ErrArg {
				t.Errorf("%s, and no array: error %d", x.what, e)
			}
		}
	}
}

func TestChangeErrors(t *testing.T) {
	a := line(api.MaxCells)
	x := peak{a, list(3), 4, []api.Agg{{Fn: api.Avg, Attr: "v", As: "m"}, {Fn: api.Max, Attr: "v", As: "n"}}}
	p, e := version.Build(x.a, x.factors, x.levels, x.aggs)
	if e != api.OK {
		t.Fatal(e)
	}
	for l, want := range map[string]api.Errno{
		"0 0: 1": api.ErrShape, "0: 1, 1": api.ErrShape, "10000:": api.ErrRange, "-1: 1": api.ErrRange, "0: 1; 1: true": api.ErrType,
		"1:; 2: 1; 1: 2": api.ErrHave, "9000: 1; 9001: 1; 7:": api.ErrMany,
	} {
		if n, e := p.Change(changes(l)); n != 0 || e != want {
			t.Errorf("%s: %d, error %d, not %d", l, n, e, want)
		}
	}
	x.compares(t, p)
	if n, e := p.Change(changes("9000: 1; 7:; 8: 8")); n != 8 || e != api.OK {
		t.Error(n, e)
	}
	x.a = must(version.Apply(a, changes("9000: 1; 7:")))
	x.compares(t, p)
}

// What a change counts: blocks, not coordinates, and only where the state is another one.
func TestChangeCounts(t *testing.T) {
	x := peak{parse("dim x -8:*\nattr v int\nattr w text\n-1: 1, 'a'\n0: ?1, ?1\n3: 2, 'b'\n"), list(2), 3, countOf("n")}
	p, e := version.Build(x.a, x.factors, x.levels, x.aggs)
	if e != api.OK {
		t.Fatal(e)
	}
	for _, s := range []struct {
		l    string
		want int
	}{
		{"", 0}, {"-1: 1, 'a'; 5:", 0}, {"-1: 1, 'b'", 3}, {"0: 1, 'b'; -1:", 6}, {"0: 1, 'b'; -1:", 0}, {"0:; 3:; 2: 1, 'c'", 4}, {"2:", 3},
		{"-8: 1, 'x'; -7: 1, 'x'; -4: 1, 'x'", 5}, {"1073741824: 1, 'x'; -8: 2, ?1; -7: 1, 'x'", 6}, {"-8: ?1, ?1; -7:; -4:", 5}, {"-8:; 1073741824:", 6}, {"-8:", 0},
	} {
		n, e := p.Change(changes(s.l))
		if n != s.want || e != api.OK {
			t.Errorf("%s: %d, error %d, not %d", s.l, n, e, s.want)
		}
		x.a = must(version.Apply(x.a, changes(s.l)))
		x.compares(t, p)
	}
	if a, e := p.Level(3); e != api.OK || len(a.Cells) != 0 {
		t.Error("empty blocks are left", a, e)
	}
}

// aggs returns aggregates for an array.
func (d *dice) aggs(a api.Array) []api.Agg {
	var out []api.Agg
	for _, name := range []string{"a1", "a2", "a3", "a4", "a5", "a6"}[:d.from(1, 6)] {
		x := pick(d, a.Attrs...)
		g := api.Agg{Fn: d.from(api.Count, api.Distinct), Attr: x.Name, As: name}
		if _, e := agg.Type(g.Fn, x.Type); e != api.OK {
			g = api.Agg{Fn: api.Count, As: name}
		}
		out = append(out, g)
	}
	return out
}

// P8.8 and P8.12

func TestPyramidsAtRandom(t *testing.T) {
	d := dice(5)
	for range 300 {
		schema := d.schema()
		x := peak{a: d.array(schema, d.from(0, 12)), levels: d.from(1, version.MaxLevels), aggs: d.aggs(schema)}
		for range schema.Dims {
			f := d.from(1, 4)
			if x.levels <= 2 {
				f = pick(&d, f, 1<<15, 1000)
			}
			x.factors = append(x.factors, f)
		}
		p, e := version.Build(x.a, x.factors, x.levels, x.aggs)
		if e != api.OK {
			t.Fatal(e)
		}
		x.compares(t, p)
		for range 12 {
			l := d.changes(x.a, pick(&d, 0, 1, 1, 2, 9))
			if d.next()%6 == 0 {
				l = d.spoilChanges(x.a, l)
			}
			b, f := specApply(x.a, l)
			want := 0
			if f == api.OK {
				want = x.blocks(b)
				x.a = b
			}
			if n, e := p.Change(l); n != want || n > len(l)*x.levels || e != f {
				t.Fatalf("Change: %d, error %d, not %d, %d", n, e, want, f)
			}
			x.compares(t, p)
		}
	}
}

// A pyramid of as many cells as there can be, emptied and filled.
func TestLargePyramid(t *testing.T) {
	x := peak{line(api.MaxCells), list(5), 5, []api.Agg{{Fn: api.Sum, Attr: "v", As: "s"}, {Fn: api.Distinct, Attr: "v", As: "d"}}}
	p, e := version.Build(x.a, x.factors, x.levels, x.aggs)
	if e != api.OK {
		t.Fatal(e)
	}
	x.compares(t, p)
	full, empty := x.a, line(0)
	for _, b := range []api.Array{empty, full} {
		l, _ := version.Delta(x.a, b)
		if n, e := p.Change(l); n != 820+164+33+7+2 || e != api.OK {
			t.Error(n, e)
		}
		x.a = b
		x.compares(t, p)
	}
}
