package agg_test

import (
	"math"
	"math/big"
	"slices"
	"testing"

	"tesseract/agg"
	"tesseract/api"
)

// newState returns a state with some values.
func newState(t *testing.T, fn int, vals ...api.Val) *agg.State {
	t.Helper()
	s, e := agg.New(fn)
	if e != api.OK || s == nil {
		t.Fatalf("New(%d): %d", fn, e)
	}
	for _, v := range vals {
		if e := s.Add(v); e != api.OK {
			t.Fatalf("Add of %v, %d: %d", v, fn, e)
		}
	}
	return s
}

// someValues returns valid values of all kinds that a function takes, some of them twice.
func someValues(fn int) []api.Val {
	l := []api.Val{none(1), none(9), none(9), none(255), num(3), rat(1, 2), num(-4), num(3), rat(-7, 3), num(0), rat(1, most), num(most), num(-most)}
	if !ofNumbers(fn) {
		l = append(l, boolean(true), boolean(false), txt("a"), txt("'"), txt(""), boolean(true), txt("a"), txt("sixteen bytes ab"))
	}
	return l
}

// refused returns values that are not valid.
func refused() []api.Val {
	return []api.Val{
		{}, none(0), none(-1), none(256), {Kind: api.KMissing, N: 1, D: 1}, {Kind: api.KMissing, N: 1, S: "a"},
		{Kind: api.KBool, N: 2}, {Kind: api.KBool, N: 1, D: 1}, {Kind: api.KBool, S: "a"},
		rat(1, 0), rat(0, 2), rat(6, 4), rat(3, -2), num(most + 1), num(-most - 1), rat(1, most+1), num(math.MinInt64), rat(1, math.MinInt64), {Kind: api.KNum, N: 1, D: 1, S: "a"},
		txt("seventeen bytes a"), txt("\n"), txt("é"), {Kind: api.KText, S: "a", N: 1}, {Kind: api.KText, D: 1},
		{Kind: 4}, {Kind: -1, N: 1}, {Kind: math.MaxInt}, {Kind: math.MinInt, N: 1, D: 1},
	}
}

// P5.1

func TestNew(t *testing.T) {
	for _, fn := range functions() {
		newState(t, fn)
	}
	for _, fn := range append(list(0, -1, 8, 9, 1<<32+1), farNumbers...) {
		if s, e := agg.New(fn); s != nil || e != api.ErrArg {
			t.Error(fn, s, e)
		}
	}
}

func TestResult(t *testing.T) {
	for k, x := range []struct {
		fn   int
		vals []api.Val
		want api.Val
	}{
		{api.Var, []api.Val{num(1), num(2), num(4)}, rat(14, 9)},
		{api.Var, []api.Val{none(1), num(7)}, num(0)},
		{api.Var, []api.Val{rat(1, 2), rat(-1, 2)}, rat(1, 4)},
		{api.Var, []api.Val{num(most), num(-most)}, none(api.Over)},
		{api.Var, []api.Val{num(most), num(most)}, num(0)},
		{api.Var, []api.Val{num(most), num(most - 2)}, num(1)},
		{api.Var, []api.Val{rat(1, most), rat(1, most)}, num(0)},
		{api.Var, []api.Val{rat(1, 1<<20), rat(-1, 1<<20)}, rat(1, most)},
		{api.Var, []api.Val{rat(1, 1<<21), rat(-1, 1<<21)}, none(api.Over)},
		{api.Sum, []api.Val{num(1), num(2), num(4), num(2)}, num(9)},
		{api.Sum, []api.Val{rat(1, 2), rat(1, 3), rat(1, 6)}, num(1)},
		{api.Sum, []api.Val{num(most), num(1)}, none(api.Over)},
		{api.Sum, []api.Val{num(most - 1), num(1)}, num(most)},
		{api.Sum, []api.Val{num(-most), num(-1)}, none(api.Over)},
		{api.Sum, []api.Val{num(most), num(most), num(-most)}, num(most)},
		{api.Sum, []api.Val{rat(1, most), rat(1, most-1)}, none(api.Over)},
		{api.Sum, []api.Val{num(5), num(-5)}, num(0)},
		{api.Avg, []api.Val{num(1), none(7), num(2)}, rat(3, 2)},
		{api.Avg, []api.Val{num(most), num(most), num(most)}, num(most)},
		{api.Avg, []api.Val{rat(1, most), num(0)}, none(api.Over)},
		{api.Avg, []api.Val{rat(1, 3), rat(-1, 3)}, num(0)},
		{api.Count, []api.Val{num(1), num(1), none(4), txt("a"), boolean(false)}, num(4)},
		{api.Distinct, []api.Val{num(1), num(1), rat(1, 2), rat(2, 1), none(4), none(5), txt("1"), txt("1"), boolean(true)}, num(5)},
		{api.Distinct, []api.Val{boolean(false), num(0), txt("")}, num(3)},
		{api.Min, []api.Val{txt("b"), txt("a"), txt("ab")}, txt("a")},
		{api.Max, []api.Val{txt("a"), txt("ab"), txt("")}, txt("ab")},
		{api.Min, []api.Val{none(9), rat(1, 2), rat(1, 3), num(1)}, rat(1, 3)},
		{api.Max, []api.Val{rat(-1, 2), none(9), rat(-1, 3), num(-1)}, rat(-1, 3)},
		{api.Min, []api.Val{txt(""), num(-most), boolean(true)}, boolean(true)},
		{api.Max, []api.Val{boolean(true), txt(""), num(most)}, txt("")},
		{api.Min, []api.Val{boolean(true), boolean(false)}, boolean(false)},
		{api.Max, []api.Val{boolean(true), boolean(false)}, boolean(true)},
	} {
		if v := newState(t, x.fn, x.vals...).Result(); v != x.want {
			t.Error(k, x.fn, x.vals, v, "not", x.want)
		}
	}
}

func TestNoValues(t *testing.T) {
	for _, fn := range functions() {
		want := none(api.Empty)
		if fn == api.Count || fn == api.Distinct {
			want = num(0)
		}
		s := newState(t, fn)
		if s.Result() != want {
			t.Error(fn, s.Result())
		}
		for reason := range int64(255) {
			if e := s.Add(none(reason + 1)); e != api.OK || s.Result() != want {
				t.Error(fn, reason+1, e, s.Result())
			}
		}
		if e := s.Merge(newState(t, fn)); e != api.OK || s.Result() != want || s.Copy().Result() != want {
			t.Error(fn, e, s.Result())
		}
		if e := s.Merge(s); e != api.OK || s.Result() != want {
			t.Error(fn, e, s.Result())
		}
	}
}

func TestResultAgrees(t *testing.T) {
	d := dice(1)
	for range 3000 {
		fn, typ := pick(&d, functions()...), d.from(api.TBool, api.TText)
		if specType(fn, typ) == 0 {
			continue
		}
		s := newState(t, fn)
		var vals []api.Val
		for range d.from(0, 12) {
			v := d.value(typ)
			vals = append(vals, v)
			if e := s.Add(v); e != api.OK {
				t.Fatal(fn, v, e)
			}
			if got, want := s.Result(), specResult(fn, vals); got != want {
				t.Fatal(fn, vals, got, "not", want)
			}
		}
	}
}

func TestAddRefuses(t *testing.T) {
	for _, fn := range functions() {
		s := newState(t, fn, num(3), num(5), num(3))
		before := s.Result()
		for _, v := range refused() {
			if e := s.Add(v); e != api.ErrArg || s.Result() != before {
				t.Error(fn, v, e, s.Result())
			}
		}
		for _, v := range []api.Val{boolean(true), boolean(false), txt(""), txt("a")} {
			u := s.Copy()
			e := u.Add(v)
			if ofNumbers(fn) && (e != api.ErrType || u.Result() != before) || !ofNumbers(fn) && e != api.OK {
				t.Error(fn, v, e, u.Result())
			}
		}
	}
}

func TestMerge(t *testing.T) {
	for _, fn := range functions() {
		l := someValues(fn)
		for k := range len(l) + 1 {
			s, u := newState(t, fn, l[:k]...), newState(t, fn, l[k:]...)
			if e := s.Merge(u); e != api.OK || s.Result() != specResult(fn, l) {
				t.Error(fn, k, e, s.Result())
			}
			if u.Result() != specResult(fn, l[k:]) {
				t.Error(fn, k, "Merge changed its argument", u.Result())
			}
			u.Add(num(77))
			if s.Result() != specResult(fn, l) {
				t.Error(fn, k, "the states share something", s.Result())
			}
			v := newState(t, fn, l[k:]...)
			s = newState(t, fn, l[:k]...)
			s.Merge(v)
			s.Add(num(78))
			if v.Result() != specResult(fn, l[k:]) {
				t.Error(fn, k, "the states share something", v.Result())
			}
		}
	}
}

func TestMergeRefuses(t *testing.T) {
	for _, fn := range functions() {
		for _, other := range functions() {
			s, u := newState(t, fn, num(3), num(4), num(3)), newState(t, other, num(7), num(8))
			e := s.Merge(u)
			if (fn == other) != (e == api.OK) || e != api.OK && e != api.ErrArg {
				t.Error(fn, other, e)
			}
			if fn != other && s.Result() != specResult(fn, []api.Val{num(3), num(4), num(3)}) || u.Result() != specResult(other, []api.Val{num(7), num(8)}) {
				t.Error(fn, other, "a state changed", s.Result(), u.Result())
			}
			if e := newState(t, fn).Merge(newState(t, other)); (fn == other) != (e == api.OK) {
				t.Error(fn, other, "no values", e)
			}
		}
	}
}

func TestMergeItself(t *testing.T) {
	for _, fn := range functions() {
		l := someValues(fn)
		s := newState(t, fn, l...)
		for range 3 {
			if e := s.Merge(s); e != api.OK {
				t.Error(fn, e)
			}
			l = slices.Concat(l, l)
			if s.Result() != specResult(fn, l) {
				t.Error(fn, len(l), s.Result(), specResult(fn, l))
			}
		}
	}
}

// Sums and counts cross all bounds of words while they are doubled, and come back.
func TestLarge(t *testing.T) {
	for _, x := range []api.Val{num(1), num(-1), num(most), num(-most), num(most - 1), num(3), rat(1, 3), rat(-most, most-1)} {
		n, sum, avg := newState(t, api.Count, x), newState(t, api.Sum, x), newState(t, api.Avg, x)
		spread, least := newState(t, api.Var, x), newState(t, api.Min, x)
		times, r := big.NewInt(1), big.NewRat(x.N, x.D)
		for k := range 150 {
			whole := new(big.Rat).SetInt(times)
			if n.Result() != value(whole) || sum.Result() != value(new(big.Rat).Mul(r, whole)) {
				t.Fatal(x, k, n.Result(), sum.Result())
			}
			if avg.Result() != x || spread.Result() != num(0) || least.Result() != x {
				t.Fatal(x, k, avg.Result(), spread.Result(), least.Result())
			}
			for _, s := range []*agg.State{n, sum, avg, spread, least} {
				s.Merge(s)
			}
			times.Lsh(times, 1)
		}
		back := newState(t, api.Sum, value(new(big.Rat).Neg(r)))
		for range 150 {
			back.Merge(back)
		}
		back.Add(num(5))
		if sum.Merge(back); sum.Result() != num(5) {
			t.Error(x, "sums that cancel", sum.Result())
		}
	}
}

// Sums of words and of their squares, at the bounds of both.
func TestManyLarge(t *testing.T) {
	d := dice(2)
	for range 200 {
		sum, spread := newState(t, api.Sum), newState(t, api.Var)
		var vals []api.Val
		total, squares := new(big.Rat), new(big.Rat)
		for range d.from(1, 40) {
			v := d.number(d.next()%8 == 0)
			vals = append(vals, v)
			sum.Add(v)
			spread.Add(v)
			x := big.NewRat(v.N, v.D)
			total.Add(total, x)
			squares.Add(squares, x.Mul(x, x))
		}
		for range d.from(0, 60) {
			sum.Merge(sum)
			total.Add(total, total)
			spread.Merge(spread)
		}
		if sum.Result() != value(total) || spread.Result() != specResult(api.Var, vals) {
			t.Fatal(vals, sum.Result(), spread.Result())
		}
	}
}

func TestCopy(t *testing.T) {
	for _, fn := range functions() {
		l := someValues(fn)
		s := newState(t, fn, l...)
		u := s.Copy()
		if u == s || u.Result() != s.Result() {
			t.Error(fn, u.Result(), s.Result())
		}
		more := num(12345)
		if e := u.Add(more); e != api.OK || s.Result() != specResult(fn, l) || u.Result() != specResult(fn, append(slices.Clone(l), more)) {
			t.Error(fn, "a copy and its original", e, s.Result(), u.Result())
		}
		u = s.Copy()
		other := num(-54321)
		if e := s.Add(other); e != api.OK || u.Result() != specResult(fn, l) || s.Result() != specResult(fn, append(slices.Clone(l), other)) {
			t.Error(fn, "an original and its copy", e, s.Result(), u.Result())
		}
		if e := u.Merge(s); e != api.OK || u.Result() != specResult(fn, slices.Concat(l, l, []api.Val{other})) {
			t.Error(fn, "a copy is not a whole state", e, u.Result())
		}
	}
}

// R3

func TestNotAState(t *testing.T) {
	for _, fn := range functions() {
		good := newState(t, fn, num(3))
		copied := *good
		for k, bad := range []*agg.State{nil, {}, new(agg.State), &copied} {
			if e := bad.Add(num(1)); e != api.ErrNil {
				t.Error(k, "Add", e)
			}
			if e := bad.Add(api.Val{}); e != api.ErrNil {
				t.Error(k, "Add of a value that is not valid", e)
			}
			if e := bad.Merge(good); e != api.ErrNil {
				t.Error(k, "Merge", e)
			}
			if e := good.Merge(bad); e != api.ErrNil {
				t.Error(k, "Merge of it", e)
			}
			if e := bad.Merge(bad); e != api.ErrNil {
				t.Error(k, "Merge with itself", e)
			}
			if v := bad.Result(); v != (api.Val{}) {
				t.Error(k, "Result", v)
			}
			if s := bad.Copy(); s != nil {
				t.Error(k, "Copy", s)
			}
		}
		if good.Result() != specResult(fn, []api.Val{num(3)}) {
			t.Error(fn, "the state changed", good.Result())
		}
	}
}

// P5.2

func TestType(t *testing.T) {
	const b, i, r, s = api.TBool, api.TInt, api.TRat, api.TText
	want := map[int]map[int]int{
		api.Count: {b: i, i: i, r: i, s: i}, api.Distinct: {b: i, i: i, r: i, s: i},
		api.Sum: {i: i, r: r}, api.Avg: {i: r, r: r}, api.Var: {i: r, r: r},
		api.Min: {b: b, i: i, r: r, s: s}, api.Max: {b: b, i: i, r: r, s: s},
	}
	for _, fn := range functions() {
		for typ := b; typ <= s; typ++ {
			e := api.OK
			if want[fn][typ] == 0 {
				e = api.ErrType
			}
			if got, f := agg.Type(fn, typ); got != want[fn][typ] || f != e {
				t.Error(fn, typ, got, f)
			}
		}
		for _, typ := range append(list(-1, 0, 5), farNumbers...) {
			if got, e := agg.Type(fn, typ); got != 0 || e != api.ErrArg {
				t.Error(fn, typ, got, e)
			}
		}
	}
	for _, fn := range append(list(-1, 0, 8), farNumbers...) {
		for typ := range 6 {
			if got, e := agg.Type(fn, typ); got != 0 || e != api.ErrArg {
				t.Error(fn, typ, got, e)
			}
		}
	}
}

// P5.8

func TestStates(t *testing.T) {
	d := dice(3)
	for range 2000 {
		fn := pick(&d, functions()...)
		var vals []api.Val
		for range d.from(0, 20) {
			vals = append(vals, pick(&d, someValues(fn)...))
		}
		states := make([]*agg.State, d.from(1, 6))
		for k := range states {
			states[k] = newState(t, fn)
		}
		for _, v := range shuffled(&d, vals) {
			if e := pick(&d, states...).Add(v); e != api.OK {
				t.Fatal(fn, v, e)
			}
		}
		for len(states) > 1 { // any two of them, one of which may be a result itself
			states = shuffled(&d, states)
			if e := states[1].Merge(states[0]); e != api.OK {
				t.Fatal(fn, e)
			}
			states = states[1:]
		}
		if got, want := states[0].Result(), specResult(fn, vals); got != want {
			t.Fatal(fn, vals, got, "not", want)
		}
	}
}
