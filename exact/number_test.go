package exact_test

import (
	"math"
	"math/big"
	"slices"
	"strings"
	"testing"

	"tesseract/api"
	"tesseract/exact"
)

// dice makes numbers that look random, the same ones in each run.
type dice uint64

func (d *dice) next() uint64 {
	*d = *d*6364136223846793005 + 1442695040888963407
	x := uint64(*d)
	return x ^ x>>29
}

// integer returns an integer of at most n words, many of which are at the bounds of a word.
func (d *dice) integer(n int) *big.Int {
	out := new(big.Int)
	for range d.next() % uint64(n+1) {
		w := d.next()
		switch d.next() % 4 {
		case 0:
			w = ^uint64(0)
		case 1:
			w = d.next() % 7
		}
		out.Lsh(out, 64).Or(out, new(big.Int).SetUint64(w))
	}
	if d.next()%2 == 0 {
		out.Neg(out)
	}
	return out
}

func (d *dice) number(n int) *big.Rat {
	den := d.integer(n)
	if den.Sign() == 0 || d.next()%4 == 0 {
		den.SetInt64(1)
	}
	return new(big.Rat).SetFrac(d.integer(n), den)
}

// numbers returns numbers of all sizes, with small ones that are equal to one another.
func numbers(count int) []*big.Rat {
	d := dice(5)
	var l []*big.Rat
	for k := range count {
		l = append(l, d.number(k%5), big.NewRat(int64(d.next()%9)-4, int64(d.next()%4)+1))
	}
	return l
}

func text(x *big.Rat) string { return x.RatString() }

func parse(t *testing.T, s string) *exact.Rat {
	t.Helper()
	x, e := exact.Parse(s)
	if e != api.OK {
		t.Fatal(s, e)
	}
	return x
}

func of(t *testing.T, x *big.Rat) *exact.Rat {
	t.Helper()
	return parse(t, text(x))
}

// P1.1

func TestOf(t *testing.T) {
	for k, x := range []struct {
		num, den int64
		want     string
	}{
		{6, -4, "-3/2"}, {0, -7, "0"}, {0, math.MinInt64, "0"}, {-12, -4, "3"}, {7, 1, "7"}, {-7, 1, "-7"}, {10, 15, "2/3"},
		{math.MinInt64, 1, "-9223372036854775808"}, {math.MinInt64, -1, "9223372036854775808"}, {math.MaxInt64, math.MinInt64, "-9223372036854775807/9223372036854775808"},
		{1, math.MinInt64, "-1/9223372036854775808"}, {math.MinInt64, math.MinInt64, "1"}, {math.MinInt64, 6, "-4611686018427387904/3"},
	} {
		r, e := exact.Of(x.num, x.den)
		if e != api.OK || r.Text() != x.want {
			t.Error(k, r.Text(), e)
		}
		if exact.Cmp(r, parse(t, x.want)) != 0 {
			t.Error(k, "is not the number of its string")
		}
	}
	for _, num := range []int64{0, 1, math.MinInt64} {
		if r, e := exact.Of(num, 0); r != nil || e != api.ErrArg {
			t.Error(num, r, e)
		}
	}
}

func TestParseRefuses(t *testing.T) {
	for _, s := range []string{
		"", "-", "/", "1/", "/2", "-/2", "6/4", "3/1", "0/1", "0/5", "-0", "-0/1", "+1", "1/-2", "1/+2", "--1", "01", "-01", "00", "1/02", "1/0", "0/0", "-3/6",
		" 1", "1 ", "1 /2", "1/2/3", "1//2", "1.5", "1e3", "0x1", "1_000", "१", "1\n", "1\x00", "?1", "true",
		"18446744073709551616/18446744073709551618", strings.Repeat("9", 5000) + "/" + strings.Repeat("3", 4999),
	} {
		if x, e := exact.Parse(s); x != nil || e != api.ErrForm {
			t.Error(s, e)
		}
	}
	for _, s := range []string{strings.Repeat("9", 10001), strings.Repeat("x", 10001), "1/" + strings.Repeat("9", 9999)} {
		if x, e := exact.Parse(s); x != nil || e != api.ErrLong {
			t.Error(s[:5], len(s), e)
		}
	}
}

func TestParse(t *testing.T) {
	for _, s := range []string{
		"0", "1", "-1", "1/2", "-3/2", "10/7", "18446744073709551615", "18446744073709551616", "-18446744073709551616/18446744073709551615",
		"10000000000000000000", "100000000000000000000000000000000000000", "1/1000000000000000000000000000001",
	} {
		want, _ := new(big.Rat).SetString(s)
		x := parse(t, s)
		two, _ := exact.Of(2, 1)
		if x.Text() != s || exact.Mul(x, two).Text() != text(want.Add(want, want)) {
			t.Error(s, x.Text())
		}
	}
}

// P1.2

func TestArithmetic(t *testing.T) {
	l := numbers(60)
	for _, x := range l {
		for _, y := range l {
			a, b := of(t, x), of(t, y)
			if s := exact.Add(a, b).Text(); s != text(new(big.Rat).Add(x, y)) {
				t.Fatal(x, "+", y, s)
			}
			if s := exact.Sub(a, b).Text(); s != text(new(big.Rat).Sub(x, y)) {
				t.Fatal(x, "-", y, s)
			}
			if s := exact.Mul(a, b).Text(); s != text(new(big.Rat).Mul(x, y)) {
				t.Fatal(x, "*", y, s)
			}
			q, e := exact.Quo(a, b)
			if y.Sign() == 0 {
				if q != nil || e != api.ErrArg {
					t.Fatal(x, "by 0", q, e)
				}
			} else if e != api.OK || q.Text() != text(new(big.Rat).Quo(x, y)) {
				t.Fatal(x, "/", y, q.Text(), e)
			}
			if a.Text() != text(x) || b.Text() != text(y) {
				t.Fatal("a number changed", x, y)
			}
		}
	}
}

func TestArithmeticExamples(t *testing.T) {
	half, third := parse(t, "1/2"), parse(t, "1/3")
	if s := exact.Add(half, third).Text(); s != "5/6" {
		t.Error(s)
	}
	if s := exact.Mul(parse(t, "2/3"), parse(t, "3/4")).Text(); s != "1/2" {
		t.Error(s)
	}
	if q, e := exact.Quo(half, parse(t, "0")); q != nil || e != api.ErrArg {
		t.Error(q, e)
	}
	if s := exact.Add(half, half).Text(); s != "1" {
		t.Error("a number and itself", s)
	}
	if s := exact.Sub(half, half).Text(); s != "0" {
		t.Error("a number and itself", s)
	}
}

func TestSum(t *testing.T) {
	if s := exact.Sum(nil).Text(); s != "0" {
		t.Error(s)
	}
	if s := exact.Sum([]*exact.Rat{}).Text(); s != "0" {
		t.Error(s)
	}
	want := new(big.Rat)
	var l []*exact.Rat
	for _, x := range numbers(100) {
		want.Add(want, x)
		l = append(l, of(t, x))
		if s := exact.Sum(l).Text(); s != text(want) {
			t.Fatal(len(l), s, want)
		}
	}
}

func TestSumReadsOnlyTheList(t *testing.T) {
	one := parse(t, "1")
	l := []*exact.Rat{one, one, nil, nil}
	if s := exact.Sum(l[:2]).Text(); s != "2" {
		t.Error(s)
	}
	if l[0] != one || l[1] != one || l[2] != nil {
		t.Error("the list changed")
	}
	alone := exact.Sum(l[:1])
	if alone == one || alone.Text() != "1" {
		t.Error("the sum of one number is no number of its own")
	}
}

// P1.3

func TestParts(t *testing.T) {
	for _, x := range numbers(200) {
		a := of(t, x)
		n, d := a.Bits()
		if n != x.Num().BitLen() || d != x.Denom().BitLen() {
			t.Error(x, "Bits", n, d)
		}
		floor := new(big.Int).Div(x.Num(), x.Denom()) // rounded down, for a divisor above 0
		if s := a.Floor().Text(); s != floor.String() {
			t.Error(x, "Floor", s)
		}
		if a.Sign() != x.Sign() || a.Whole() != x.IsInt() || a.Floor() == a {
			t.Error(x, "Sign, Whole", a.Sign(), a.Whole())
		}
	}
	for k, x := range []struct {
		s, floor string
		n, d     int
	}{{"-3/2", "-2", 2, 2}, {"0", "0", 0, 1}, {"1/2", "0", 1, 2}, {"-1/2", "-1", 1, 2}, {"-2", "-2", 2, 1}, {"-1/18446744073709551616", "-1", 1, 65}, {"18446744073709551616", "18446744073709551616", 65, 1}} {
		a := parse(t, x.s)
		if n, d := a.Bits(); a.Floor().Text() != x.floor || n != x.n || d != x.d {
			t.Error(k, a.Floor().Text(), n, d)
		}
	}
}

func TestCmp(t *testing.T) {
	l := numbers(60)
	for _, x := range l {
		for _, y := range l {
			if c := exact.Cmp(of(t, x), of(t, y)); c != x.Cmp(y) {
				t.Fatal(x, y, c)
			}
		}
	}
}

// R3

func TestNumbersThatAreNotValid(t *testing.T) {
	one := parse(t, "1")
	zero := parse(t, "0")
	copied := *one
	for k, x := range []*exact.Rat{nil, {}, &copied} {
		if exact.Add(x, one) != nil || exact.Add(one, x) != nil || exact.Sub(x, one) != nil || exact.Sub(one, x) != nil || exact.Mul(x, one) != nil || exact.Mul(one, x) != nil {
			t.Error(k, "arithmetic")
		}
		if exact.Sum([]*exact.Rat{x}) != nil || exact.Sum([]*exact.Rat{one, x, one}) != nil {
			t.Error(k, "Sum")
		}
		for _, y := range []*exact.Rat{one, zero, x} {
			if q, e := exact.Quo(x, y); q != nil || e != api.ErrNil {
				t.Error(k, q, e)
			}
			if q, e := exact.Quo(y, x); q != nil || e != api.ErrNil {
				t.Error(k, q, e)
			}
			if exact.Cmp(x, y) != 0 || exact.Cmp(y, x) != 0 {
				t.Error(k, "Cmp")
			}
		}
		if n, d := x.Bits(); x.Text() != "" || x.Sign() != 0 || x.Floor() != nil || x.Whole() || n != 0 || d != 0 {
			t.Error(k, "parts")
		}
		if v := exact.Value(x); v != (api.Val{}) {
			t.Error(k, v)
		}
	}
	if copied = *zero; one.Text() != "1" || zero.Text() != "0" {
		t.Error("a number changed with its copy")
	}
}

// P1.10

func TestLaws(t *testing.T) {
	var l []*exact.Rat
	for _, x := range numbers(9) {
		l = append(l, of(t, x))
	}
	same := func(what string, a, b *exact.Rat) {
		t.Helper()
		if a.Text() != b.Text() || exact.Cmp(a, b) != 0 {
			t.Fatal(what, a.Text(), b.Text())
		}
	}
	for _, x := range l {
		for _, y := range l {
			same("sum commuted", exact.Add(x, y), exact.Add(y, x))
			same("product commuted", exact.Mul(x, y), exact.Mul(y, x))
			same("difference", exact.Sub(exact.Add(x, y), y), x)
			if y.Sign() != 0 {
				q, _ := exact.Quo(exact.Mul(x, y), y)
				same("quotient", q, x)
			}
			for _, z := range l {
				same("sum associated", exact.Add(exact.Add(x, y), z), exact.Add(x, exact.Add(y, z)))
				same("product associated", exact.Mul(exact.Mul(x, y), z), exact.Mul(x, exact.Mul(y, z)))
				same("distributed", exact.Mul(x, exact.Add(y, z)), exact.Add(exact.Mul(x, y), exact.Mul(x, z)))
			}
		}
	}
}

func TestSumDivided(t *testing.T) {
	var l []*exact.Rat
	for _, x := range numbers(20) {
		l = append(l, of(t, x))
	}
	want := exact.Sum(l).Text()
	for cut := range len(l) + 1 {
		if s := exact.Add(exact.Sum(l[:cut]), exact.Sum(l[cut:])).Text(); s != want {
			t.Error("divided", cut, s)
		}
		turned := append(slices.Clone(l[cut:]), l[:cut]...)
		slices.Reverse(turned[cut/2:])
		if s := exact.Sum(turned).Text(); s != want {
			t.Error("in another order", cut, s)
		}
	}
}

// P1.11

func TestOrderOfNumbers(t *testing.T) {
	var l []*exact.Rat
	for _, x := range numbers(15) {
		l = append(l, of(t, x))
	}
	one := parse(t, "1")
	for _, x := range l {
		if exact.Cmp(x.Floor(), x) > 0 || exact.Cmp(x.Floor(), exact.Sub(x, one)) <= 0 || !x.Floor().Whole() {
			t.Error("Floor", x.Text(), x.Floor().Text())
		}
		for _, y := range l {
			c := exact.Cmp(x, y)
			if c != exact.Sub(x, y).Sign() || c != -exact.Cmp(y, x) || (c == 0) != (x.Text() == y.Text()) {
				t.Error("Cmp", x.Text(), y.Text(), c)
			}
			for _, z := range l {
				if c <= 0 && exact.Cmp(y, z) <= 0 && exact.Cmp(x, z) > 0 {
					t.Error("not transitive", x.Text(), y.Text(), z.Text())
				}
			}
		}
	}
}

// P1.12

func TestStringsOfNumbers(t *testing.T) {
	met := map[string]*exact.Rat{}
	for _, x := range numbers(200) {
		a := of(t, x)
		s := a.Text()
		if b := parse(t, s); exact.Cmp(a, b) != 0 || b.Text() != s {
			t.Error(s)
		}
		if b := met[s]; b != nil && exact.Cmp(a, b) != 0 {
			t.Error("two numbers have the string", s)
		}
		met[s] = a
	}
	for _, s := range []string{
		strings.Repeat("9", 10000), "-" + strings.Repeat("7", 9999), "1/" + strings.Repeat("3", 9998),
		"1" + strings.Repeat("0", 4999) + "/" + strings.Repeat("9", 4999), "-" + strings.Repeat("2", 5000) + "/" + strings.Repeat("1", 4997) + "3",
	} {
		if len(s) == 0 || len(s) > 10000 {
			t.Fatal(len(s))
		}
		if x := parse(t, s); x.Text() != s {
			t.Error(s[:5], len(s))
		}
	}
}
