package exact_test

import (
	"math"
	"testing"

	"tesseract/api"
	"tesseract/exact"
)

func none(reason int64) api.Val { return api.Val{Kind: api.KMissing, N: reason} }
func num(n, d int64) api.Val    { return api.Val{Kind: api.KNum, N: n, D: d} }
func txt(s string) api.Val      { return api.Val{Kind: api.KText, S: s} }

func boolean(is bool) api.Val {
	if is {
		return api.Val{Kind: api.KBool, N: 1}
	}
	return api.Val{Kind: api.KBool}
}

// most is the greatest number of a value.
const most = api.MaxNum

// ordered returns valid values of all kinds, in their order.
func ordered() []api.Val {
	return []api.Val{
		none(1), none(2), none(7), none(9), none(10), none(255),
		boolean(false), boolean(true),
		num(-most, 1), num(1-most, 1), num(-7, 2), num(-3, 1), num(-1, 1), num(-(most - 1), most), num(-1, 2), num(-1, most), num(0, 1),
		num(1, most), num(1, most-1), num(1, 3), num(1, 2), num(most-2, most-1), num(most-1, most), num(1, 1), num(most, most-1), num(2, 1), num(10, 1), num(most-1, 2), num(most-1, 1), num(most, 1),
		txt(""), txt(" "), txt("'"), txt("''"), txt("''''''''''''''''"), txt("1"), txt("10"), txt("2"), txt("?1"), txt("A"), txt("Z"), txt("a"), txt("ab"), txt("b"), txt("it's"), txt("sixteen bytes ab"), txt("true"), txt("~"), txt("~~"),
	}
}

// refused returns values that are not valid.
func refused() []api.Val {
	return []api.Val{
		{}, none(0), none(-1), none(256), none(math.MaxInt64), none(math.MinInt64),
		{Kind: api.KMissing, N: 1, D: 1}, {Kind: api.KMissing, N: 1, S: "a"},
		{Kind: api.KBool, N: 2}, {Kind: api.KBool, N: -1}, {Kind: api.KBool, N: 1, D: 1}, {Kind: api.KBool, D: 1}, {Kind: api.KBool, S: "a"}, {Kind: api.KBool, N: math.MinInt64},
		num(0, 0), num(1, 0), num(0, 2), num(0, -1), num(6, 4), num(-2, 2), num(3, -2), num(most+1, 1), num(-most-1, 1), num(1, most+1), num(most+1, most+2), num(most, 2),
		num(math.MinInt64, 1), num(math.MaxInt64, 1), num(1, math.MinInt64), num(1, math.MaxInt64), num(math.MinInt64, math.MinInt64),
		{Kind: api.KNum, N: 1, D: 1, S: "a"},
		txt("seventeen bytes a"), txt("\x1f"), txt("\x7f"), txt("a\n"), txt("é"), txt("\x00"), txt("\xff"), {Kind: api.KText, S: "a", N: 1}, {Kind: api.KText, S: "a", D: 1}, {Kind: api.KText, D: 1},
		{Kind: 4}, {Kind: 4, S: "a"}, {Kind: -1, N: 1}, {Kind: math.MaxInt, N: 1, D: 1}, {Kind: math.MinInt},
	}
}

// P1.4

func TestCheck(t *testing.T) {
	for k, v := range ordered() {
		if e := exact.Check(v); e != api.OK {
			t.Error(k, v, e)
		}
	}
	for k, v := range refused() {
		if e := exact.Check(v); e != api.ErrArg {
			t.Error(k, v, e)
		}
	}
}

func TestFits(t *testing.T) {
	for k, v := range ordered() {
		for _, typ := range []int{math.MinInt, -1, 0, api.TBool, api.TInt, api.TRat, api.TText, 5, math.MaxInt} {
			want := false
			switch typ {
			case api.TBool:
				want = v.Kind == api.KBool || v.Kind == api.KMissing
			case api.TInt:
				want = v.Kind == api.KNum && v.D == 1 || v.Kind == api.KMissing
			case api.TRat:
				want = v.Kind == api.KNum || v.Kind == api.KMissing
			case api.TText:
				want = v.Kind == api.KText || v.Kind == api.KMissing
			}
			if exact.Fits(v, typ) != want {
				t.Error(k, v, typ)
			}
		}
	}
	for k, v := range refused() {
		for typ := range 6 {
			if exact.Fits(v, typ) {
				t.Error(k, v, typ)
			}
		}
	}
}

// P1.5

func TestValue(t *testing.T) {
	for k, x := range []struct {
		s    string
		want api.Val
	}{
		{"0", num(0, 1)}, {"-3/2", num(-3, 2)}, {"7", num(7, 1)},
		{"1099511627776", num(most, 1)}, {"-1099511627776", num(-most, 1)}, {"1099511627777", none(api.Over)}, {"-1099511627777", none(api.Over)},
		{"1/1099511627776", num(1, most)}, {"-1/1099511627776", num(-1, most)}, {"1/1099511627777", none(api.Over)}, {"1099511627775/1099511627776", num(most-1, most)},
		{"18446744073709551616", none(api.Over)}, {"18446744073709551617", none(api.Over)}, {"1/18446744073709551617", none(api.Over)}, {"-18446744073709551616/18446744073709551617", none(api.Over)},
	} {
		if v := exact.Value(parse(t, x.s)); v != x.want {
			t.Error(k, v)
		}
	}
}

func TestNumber(t *testing.T) {
	for k, v := range ordered() {
		x, ok := exact.Number(v)
		if ok != (v.Kind == api.KNum) || (x == nil) == ok {
			t.Error(k, v, x, ok)
		}
		if !ok {
			continue
		}
		want, _ := exact.Of(v.N, v.D)
		if exact.Cmp(x, want) != 0 || x.Text() != want.Text() || exact.Value(x) != v {
			t.Error(k, v, x.Text())
		}
	}
	for k, v := range refused() {
		if x, ok := exact.Number(v); x != nil || ok {
			t.Error(k, v, x, ok)
		}
	}
}

// P1.6

func TestOrderOfValues(t *testing.T) {
	l := ordered()
	for i, a := range l {
		for k, b := range l {
			want := 0
			if i < k {
				want = -1
			} else if i > k {
				want = 1
			}
			if o := exact.Order(a, b); o != want {
				t.Error(a, b, o)
			}
		}
	}
	for _, a := range refused() {
		for _, b := range []api.Val{none(1), none(255), boolean(true), num(1, 1), txt("~"), a, {Kind: 9}} {
			if exact.Order(a, b) != 0 || exact.Order(b, a) != 0 {
				t.Error(a, b)
			}
		}
	}
}

// P1.9

func TestPrint(t *testing.T) {
	for k, x := range []struct {
		v    api.Val
		want string
	}{
		{none(9), "?9"}, {none(255), "?255"}, {boolean(true), "true"}, {boolean(false), "false"},
		{num(0, 1), "0"}, {num(-5, 2), "-5/2"}, {num(7, 1), "7"}, {num(-most, 1), "-1099511627776"}, {num(1-most, most), "-1099511627775/1099511627776"},
		{txt("it's"), "'it''s'"}, {txt(""), "''"}, {txt("'"), "''''"}, {txt("true"), "'true'"}, {txt(`"\`), `'"\'`},
	} {
		if s, e := exact.Print(x.v); s != x.want || e != api.OK {
			t.Error(k, s, e)
		}
		if v, e := exact.Read(x.want); v != x.v || e != api.OK {
			t.Error(k, v, e)
		}
	}
	for k, v := range refused() {
		if s, e := exact.Print(v); s != "" || e != api.ErrArg {
			t.Error(k, v, s, e)
		}
	}
}

func TestReadRefuses(t *testing.T) {
	long := make([]byte, 20000)
	for i := range long {
		long[i] = '1'
	}
	for _, s := range []string{
		"", " ", "?", "?0", "?256", "?01", "?-1", "?+1", "? 1", "?1 ", "??1", "?99999999999999999999", "?1/2",
		"6/4", "3/1", "-0", "+1", "01", "1 ", " 1", "1099511627777", "-1099511627777", "1/1099511627777", "18446744073709551617", "1e3", "0.5",
		"'a", "a'", "'", "'''", "'''''", "'a'b'", "'a''", "''a'", "'a'''b'", "'seventeen bytes a'", "'\n'", "'é'", "'a' ", " 'a'", "\"a\"",
		"True", "TRUE", "truefalse", "true ", "null", "a", string(long), "'" + string(long) + "'", "?" + string(long),
	} {
		if v, e := exact.Read(s); v != (api.Val{}) || e != api.ErrForm {
			t.Error(s, v, e)
		}
	}
}

// P1.12

func TestStringsOfValues(t *testing.T) {
	met := map[string]api.Val{}
	for k, v := range ordered() {
		s, e := exact.Print(v)
		if again, f := exact.Read(s); e != api.OK || f != api.OK || again != v {
			t.Error(k, v, s, e, again, f)
		}
		if other, ok := met[s]; ok {
			t.Error("two values have the string", s, v, other)
		}
		met[s] = v
	}
}
