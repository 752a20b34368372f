package exact_test

import (
	"math"
	"slices"
	"testing"

	"tesseract/api"
	"tesseract/exact"
)

// needs tells, for each operation, what its operands need to be: a Boolean, a number, any value, or two values that are alike.
func needs() map[int]string {
	return map[int]string{
		api.SNot: "b", api.SNeg: "n", api.SFloor: "n", api.SMissing: "*", api.SReason: "*",
		api.SAdd: "nn", api.SSub: "nn", api.SMul: "nn", api.SDiv: "nn",
		api.SEq: "aa", api.SNe: "aa", api.SLt: "aa", api.SLe: "aa", api.SGt: "aa", api.SGe: "aa",
		api.SAnd: "bb", api.SOr: "bb", api.SElse: "aa", api.SIf: "baa",
	}
}

// lists calls f for each list of n elements of l.
func lists[E any](l []E, n int, f func([]E)) {
	if n == 0 {
		f(nil)
		return
	}
	lists(l, n-1, func(front []E) {
		for _, x := range l {
			f(append(slices.Clone(front), x))
		}
	})
}

// some returns a few valid values of all kinds.
func some() []api.Val {
	return []api.Val{none(7), none(9), boolean(false), boolean(true), num(0, 1), num(3, 1), num(-5, 2), num(most, 1), txt(""), txt("ab")}
}

// P1.7

func TestDo(t *testing.T) {
	yes, no := boolean(true), boolean(false)
	for k, x := range []struct {
		op   int
		l    []api.Val
		want api.Val
	}{
		{api.SNot, []api.Val{yes}, no}, {api.SNot, []api.Val{no}, yes}, {api.SNot, []api.Val{none(8)}, none(8)},
		{api.SNeg, []api.Val{num(3, 2)}, num(-3, 2)}, {api.SNeg, []api.Val{num(0, 1)}, num(0, 1)}, {api.SNeg, []api.Val{num(-most, 1)}, num(most, 1)}, {api.SNeg, []api.Val{none(8)}, none(8)},
		{api.SFloor, []api.Val{num(-3, 2)}, num(-2, 1)}, {api.SFloor, []api.Val{num(3, 2)}, num(1, 1)}, {api.SFloor, []api.Val{num(-7, 1)}, num(-7, 1)}, {api.SFloor, []api.Val{none(8)}, none(8)},
		{api.SMissing, []api.Val{none(8)}, yes}, {api.SMissing, []api.Val{txt("")}, no}, {api.SMissing, []api.Val{no}, no}, {api.SMissing, []api.Val{num(0, 1)}, no},
		{api.SReason, []api.Val{none(255)}, num(255, 1)}, {api.SReason, []api.Val{yes}, num(0, 1)}, {api.SReason, []api.Val{txt("a")}, num(0, 1)}, {api.SReason, []api.Val{num(5, 1)}, num(0, 1)},
		{api.SAdd, []api.Val{num(1, 2), num(1, 3)}, num(5, 6)}, {api.SAdd, []api.Val{num(most, 1), num(1, 1)}, none(api.Over)}, {api.SAdd, []api.Val{num(1, most), num(1, most-1)}, none(api.Over)}, {api.SAdd, []api.Val{num(most, 1), num(-most, 1)}, num(0, 1)},
		{api.SSub, []api.Val{num(1, 2), num(1, 3)}, num(1, 6)}, {api.SSub, []api.Val{num(-most, 1), num(1, 1)}, none(api.Over)}, {api.SSub, []api.Val{num(1, 1), num(most, 1)}, num(1-most, 1)},
		{api.SMul, []api.Val{num(2, 3), num(3, 2)}, num(1, 1)}, {api.SMul, []api.Val{num(1<<20, 1), num(1<<20, 1)}, num(most, 1)}, {api.SMul, []api.Val{num(-1<<20, 1), num(1<<20+1, 1)}, none(api.Over)},
		{api.SDiv, []api.Val{num(1, 1), num(-2, 1)}, num(-1, 2)}, {api.SDiv, []api.Val{num(1, 1), num(0, 1)}, none(api.DivZero)}, {api.SDiv, []api.Val{num(0, 1), num(0, 1)}, none(api.DivZero)}, {api.SDiv, []api.Val{num(1, most), num(most, 1)}, none(api.Over)},
		{api.SDiv, []api.Val{none(7), num(0, 1)}, none(7)}, {api.SDiv, []api.Val{num(0, 1), none(9)}, none(9)}, {api.SDiv, []api.Val{num(most, 1), num(1, most)}, none(api.Over)},
		{api.SEq, []api.Val{num(1, 2), num(1, 2)}, yes}, {api.SEq, []api.Val{txt("a"), txt("b")}, no}, {api.SEq, []api.Val{none(7), none(7)}, none(7)},
		{api.SAnd, []api.Val{none(7), no}, no}, {api.SAnd, []api.Val{no, none(7)}, no}, {api.SAnd, []api.Val{none(7), yes}, none(7)}, {api.SAnd, []api.Val{yes, none(7)}, none(7)}, {api.SAnd, []api.Val{none(7), none(9)}, none(7)},
		{api.SAnd, []api.Val{yes, yes}, yes}, {api.SAnd, []api.Val{yes, no}, no}, {api.SAnd, []api.Val{no, yes}, no}, {api.SAnd, []api.Val{no, no}, no},
		{api.SOr, []api.Val{none(7), yes}, yes}, {api.SOr, []api.Val{yes, none(7)}, yes}, {api.SOr, []api.Val{none(7), no}, none(7)}, {api.SOr, []api.Val{no, none(9)}, none(9)}, {api.SOr, []api.Val{none(7), none(9)}, none(7)},
		{api.SOr, []api.Val{yes, yes}, yes}, {api.SOr, []api.Val{yes, no}, yes}, {api.SOr, []api.Val{no, yes}, yes}, {api.SOr, []api.Val{no, no}, no},
		{api.SElse, []api.Val{none(7), num(2, 1)}, num(2, 1)}, {api.SElse, []api.Val{txt("x"), none(7)}, txt("x")}, {api.SElse, []api.Val{none(7), none(9)}, none(9)}, {api.SElse, []api.Val{no, yes}, no}, {api.SElse, []api.Val{num(1, 1), num(2, 1)}, num(1, 1)},
		{api.SIf, []api.Val{yes, num(1, 1), none(5)}, num(1, 1)}, {api.SIf, []api.Val{no, num(1, 1), none(5)}, none(5)}, {api.SIf, []api.Val{yes, none(5), num(1, 1)}, none(5)}, {api.SIf, []api.Val{no, none(5), num(1, 1)}, num(1, 1)},
		{api.SIf, []api.Val{none(4), num(1, 1), num(2, 1)}, none(4)}, {api.SIf, []api.Val{none(4), none(5), none(6)}, none(4)}, {api.SIf, []api.Val{yes, txt("a"), txt("b")}, txt("a")}, {api.SIf, []api.Val{no, no, yes}, yes},
	} {
		if v, e := exact.Do(x.op, x.l); v != x.want || e != api.OK {
			t.Error(k, x.op, x.l, v, e)
		}
	}
}

func TestDoCompares(t *testing.T) {
	holds := map[int]func(order int) bool{
		api.SEq: func(o int) bool { return o == 0 }, api.SNe: func(o int) bool { return o != 0 },
		api.SLt: func(o int) bool { return o < 0 }, api.SLe: func(o int) bool { return o <= 0 },
		api.SGt: func(o int) bool { return o > 0 }, api.SGe: func(o int) bool { return o >= 0 },
	}
	for op, hold := range holds {
		lists(ordered(), 2, func(l []api.Val) {
			if l[0].Kind != l[1].Kind || l[0].Kind == api.KMissing {
				return
			}
			if v, e := exact.Do(op, l); v != boolean(hold(exact.Order(l[0], l[1]))) || e != api.OK {
				t.Error(op, l, v, e)
			}
		})
	}
}

func TestDoMissing(t *testing.T) {
	for op, need := range needs() {
		switch op {
		case api.SMissing, api.SReason, api.SAnd, api.SOr, api.SElse, api.SIf:
			continue
		}
		lists(some(), len(need), func(l []api.Val) {
			first := slices.IndexFunc(l, func(v api.Val) bool { return v.Kind == api.KMissing })
			if v, e := exact.Do(op, l); first >= 0 && e == api.OK && v != l[first] {
				t.Error(op, l, v)
			}
		})
	}
}

func TestDoKinds(t *testing.T) {
	for op, need := range needs() {
		lists(some(), len(need), func(l []api.Val) {
			want := api.OK
			alike := api.KMissing
			for k, v := range l {
				switch {
				case v.Kind == api.KMissing || need[k] == '*':
				case need[k] == 'b' && v.Kind != api.KBool, need[k] == 'n' && v.Kind != api.KNum, need[k] == 'a' && alike != api.KMissing && alike != v.Kind:
					want = api.ErrType
				case need[k] == 'a':
					alike = v.Kind
				}
			}
			before := slices.Clone(l)
			v, e := exact.Do(op, l)
			if e != want || e != api.OK && v != (api.Val{}) || e == api.OK && exact.Check(v) != api.OK {
				t.Error(op, l, v, e)
			}
			if !slices.Equal(l, before) {
				t.Error(op, "the operands changed", before, l)
			}
		})
	}
}

func TestDoRefuses(t *testing.T) {
	wrong := func(op int, l []api.Val) {
		t.Helper()
		if v, e := exact.Do(op, l); v != (api.Val{}) || e != api.ErrArg {
			t.Error(op, l, v, e)
		}
	}
	for _, op := range []int{math.MinInt, -1, 0, api.SConst, api.SAttr, api.SDim, 23, 24, math.MaxInt} {
		for n := range 5 {
			lists([]api.Val{num(1, 1), boolean(true)}, n, func(l []api.Val) { wrong(op, l) })
		}
	}
	for op, need := range needs() {
		for n := range 5 {
			if n != len(need) {
				lists([]api.Val{num(1, 1), boolean(true), none(1)}, n, func(l []api.Val) { wrong(op, l) })
			}
		}
		for _, bad := range refused() {
			for k := range len(need) { // before the error of a wrong kind, wherever that is
				lists([]api.Val{none(1), boolean(true), num(1, 1), txt("a")}, len(need), func(l []api.Val) {
					l[k] = bad
					wrong(op, l)
				})
			}
		}
	}
}

// P1.8

// typed tells, for each operation, the types of operands for which it has a result, and the type of this one.
func typed() map[int]map[[3]int]int {
	const b, i, r, s = api.TBool, api.TInt, api.TRat, api.TText
	arithmetic := map[[3]int]int{{i, i}: i, {i, r}: r, {r, i}: r, {r, r}: r}
	comparison := map[[3]int]int{{b, b}: b, {i, i}: b, {i, r}: b, {r, i}: b, {r, r}: b, {s, s}: b}
	logic := map[[3]int]int{{b, b}: b}
	return map[int]map[[3]int]int{
		api.SNot: {{b}: b}, api.SNeg: {{i}: i, {r}: r}, api.SFloor: {{i}: i, {r}: i},
		api.SMissing: {{b}: b, {i}: b, {r}: b, {s}: b}, api.SReason: {{b}: i, {i}: i, {r}: i, {s}: i},
		api.SAdd: arithmetic, api.SSub: arithmetic, api.SMul: arithmetic, api.SDiv: {{i, i}: r, {i, r}: r, {r, i}: r, {r, r}: r},
		api.SEq: comparison, api.SNe: comparison, api.SLt: comparison, api.SLe: comparison, api.SGt: comparison, api.SGe: comparison,
		api.SAnd: logic, api.SOr: logic,
		api.SElse: {{b, b}: b, {i, i}: i, {i, r}: r, {r, i}: r, {r, r}: r, {s, s}: s},
		api.SIf:   {{b, b, b}: b, {b, i, i}: i, {b, i, r}: r, {b, r, i}: r, {b, r, r}: r, {b, s, s}: s},
	}
}

func types() []int { return []int{api.TBool, api.TInt, api.TRat, api.TText} }

func TestType(t *testing.T) {
	for op, rows := range typed() {
		lists(types(), len(needs()[op]), func(l []int) {
			want := rows[[3]int(append(slices.Clone(l), 0, 0, 0))]
			typ, e := exact.Type(op, l)
			if typ != want || (e == api.OK) != (want != 0) || e != api.OK && e != api.ErrType {
				t.Error(op, l, typ, e)
			}
		})
	}
}

func TestTypeRefuses(t *testing.T) {
	wrong := func(op int, l []int) {
		t.Helper()
		if typ, e := exact.Type(op, l); typ != 0 || e != api.ErrArg {
			t.Error(op, l, typ, e)
		}
	}
	for _, op := range []int{math.MinInt, -1, 0, api.SConst, api.SAttr, api.SDim, 23, 24, math.MaxInt} {
		for n := range 5 {
			lists(types(), n, func(l []int) { wrong(op, l) })
		}
	}
	for op, need := range needs() {
		for n := range 5 {
			if n != len(need) {
				lists(types(), n, func(l []int) { wrong(op, l) })
			}
		}
		for _, bad := range []int{math.MinInt, -1, 0, 5, math.MaxInt} {
			for k := range len(need) {
				lists(types(), len(need), func(l []int) {
					l[k] = bad
					wrong(op, l)
				})
			}
		}
	}
}

// P1.13

func TestTypesOfResults(t *testing.T) {
	for op, need := range needs() {
		lists(types(), len(need), func(l []int) {
			typ, e := exact.Type(op, l)
			if e != api.OK {
				return
			}
			lists(ordered(), min(len(need), 2), func(vals []api.Val) {
				if len(need) == 3 {
					vals = append([]api.Val{boolean(vals[0].Kind == vals[1].Kind)}, vals...)
				}
				for k, v := range vals {
					if !exact.Fits(v, l[k]) {
						return
					}
				}
				if v, f := exact.Do(op, vals); f != api.OK || !exact.Fits(v, typ) {
					t.Error(op, l, vals, v, f)
				}
			})
		})
	}
}

// P1.14

func TestThreeValues(t *testing.T) {
	rank := func(v api.Val) int64 { // false, missing, true
		if v.Kind == api.KMissing {
			return 1
		}
		return 2 * v.N
	}
	do := func(op int, l ...api.Val) api.Val {
		v, e := exact.Do(op, l)
		if e != api.OK {
			t.Fatal(op, l, e)
		}
		return v
	}
	lists([]api.Val{boolean(false), boolean(true), none(7), none(9)}, 2, func(l []api.Val) {
		a, b := l[0], l[1]
		notA, notB := do(api.SNot, a), do(api.SNot, b)
		if rank(notA) != 2-rank(a) || rank(do(api.SAnd, a, b)) != min(rank(a), rank(b)) || rank(do(api.SOr, a, b)) != max(rank(a), rank(b)) {
			t.Error("not the logic of three values", a, b)
		}
		if do(api.SNot, do(api.SAnd, a, b)) != do(api.SOr, notA, notB) || do(api.SNot, do(api.SOr, a, b)) != do(api.SAnd, notA, notB) {
			t.Error("SNot does not exchange SAnd and SOr", a, b)
		}
	})
}
