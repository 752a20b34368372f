package space_test

import (
	"slices"
	"testing"

	"tesseract/api"
	"tesseract/space"
)

// formless are boxes that are not well-formed.
func formless() []api.Box {
	return []api.Box{{}, {Lo: list(), Hi: list()}, {Lo: list(0)}, {Hi: list(0)}, box(list(0), list(0, 0)), box(list(0, 0), list(0)), box(list(0, 0, 0, 0, 0), list(1, 1, 1, 1, 1))}
}

// boxes returns boxes with one and with two dimensions, also empty ones and ones without bounds.
func boxes() []api.Box {
	var out []api.Box
	numbers := append(slices.Clone(farNumbers), -2, 0, 1, most, api.Open, api.Open+1)
	for _, lo := range numbers {
		for _, hi := range numbers {
			out = append(out, box(list(lo), list(hi)))
		}
	}
	d := dice(11)
	for range 60 {
		b := box(d.coords(2, -3, 3), d.coords(2, -3, 3))
		if d.next()%3 == 0 {
			b.Hi[d.from(0, 1)] = api.Open + d.from(0, 1)
		}
		out = append(out, b)
	}
	return append(out, box(list(0, 0, 0, 0), list(1, 2, 3, api.Open)), box(list(1, 1, 1, 1), list(api.Open, 2, 2, farNumbers[5])))
}

// probes returns coordinates near those of boxes.
func probes() [][]int {
	out := [][]int{nil, list(0, 0, 0), list(1, 2, 2, most), list(1, 1, 1, 0), list(0, 0, 0, 0, 0)}
	for _, x := range append(slices.Clone(farNumbers), -3, -2, -1, 0, 1, 2, most, api.Open, api.Open+1) {
		out = append(out, list(x))
	}
	for x := -4; x <= 4; x++ {
		for y := -4; y <= 4; y++ {
			out = append(out, list(x, y))
		}
	}
	return append(out, list(0, farNumbers[5]), list(farNumbers[5], 0))
}

// P2.6

func TestWhole(t *testing.T) {
	d := dims(dim("x", -2, 5), dim("y", 3, api.Open), dim("z", -most, most), dim("w", 0, 0))
	b, e := space.Whole(d)
	if e != api.OK || !sameBox(b, box(list(-2, 3, -most, 0), list(5, api.Open, most, 0))) {
		t.Error(b, e)
	}
	b.Lo = append(b.Lo, 99)
	if b.Hi[0] != 5 {
		t.Error("Lo and Hi share memory")
	}
}

func TestHas(t *testing.T) {
	for _, b := range boxes() {
		for _, at := range probes() {
			want := len(at) == len(b.Lo)
			for k := 0; want && k < len(at); k++ {
				want = at[k] >= b.Lo[k] && (at[k] <= b.Hi[k] || !isBound(b.Hi[k]))
			}
			if space.Has(b, at) != want {
				t.Error(b, at)
			}
		}
	}
	for k, b := range formless() {
		for _, at := range probes() {
			if space.Has(b, at) {
				t.Error(k, at)
			}
		}
	}
}

func TestInter(t *testing.T) {
	for k, x := range []struct {
		a, b, want api.Box
	}{
		{box(list(0), list(api.Open)), box(list(-5), list(3)), box(list(0), list(3))},
		{box(list(4), list(api.Open)), box(list(-5), list(3)), api.Box{}},
		{box(list(3), list(9)), box(list(-5), list(3)), box(list(3), list(3))},
		{box(list(0), list(farNumbers[5])), box(list(1<<40), list(api.Open+7)), box(list(1<<40), list(api.Open))},
		{box(list(0), list(most)), box(list(1<<40), list(api.Open)), api.Box{}},
		{box(list(0), list(most)), box(list(0), list(api.Open)), box(list(0), list(most))},
		{box(list(farNumbers[0]), list(farNumbers[0])), box(list(farNumbers[0]), list(0)), box(list(farNumbers[0]), list(farNumbers[0]))},
		{box(list(2, 0), list(1, 9)), box(list(0, 0), list(9, 9)), api.Box{}},
		{box(list(0, 0), list(9, 9)), box(list(0), list(9)), api.Box{}},
		{box(list(0, 0, 0, 1), list(1, 2, 3, 4)), box(list(1, 1, 1, 0), list(1, 9, 2, api.Open)), box(list(1, 1, 1, 1), list(1, 2, 2, 4))},
	} {
		c, is := space.Inter(x.a, x.b)
		if is == isNoBox(x.want) || !sameBox(c, x.want) {
			t.Error(k, c, is)
		}
	}
	good := box(list(0), list(9))
	for k, b := range formless() {
		for _, pair := range [][2]api.Box{{b, good}, {good, b}, {b, b}} {
			if c, is := space.Inter(pair[0], pair[1]); is || !isNoBox(c) {
				t.Error(k, c)
			}
		}
	}
}

func TestInterMemory(t *testing.T) {
	a, b := box(spread(list(0, 0)), spread(list(9, 9))), box(spread(list(0, 1)), spread(list(5, api.Open)))
	c, _ := space.Inter(a, b)
	spoilInts(c.Lo)
	spoilInts(c.Hi)
	if !sameBox(a, box(list(0, 0), list(9, 9))) || !sameBox(b, box(list(0, 1), list(5, api.Open))) {
		t.Error("Inter shares memory with its arguments")
	}
}

func TestHull(t *testing.T) {
	for k, x := range []struct {
		a    api.Array
		want api.Box
	}{
		{sample(), box(list(0, 0), list(3, 1))}, {mixed(), box(list(-most, -2, 5), list(most, -2, most))}, {full(), box(list(1), list(api.MaxCells))}, {zigzag(), box(list(-4, -7), list(7, 8))}, {api.Array{}, api.Box{}},
	} {
		before := deep(x.a)
		b, is := space.Hull(x.a)
		if is == isNoBox(x.want) || !sameBox(b, x.want) {
			t.Error(k, b, is)
		}
		spoilInts(b.Lo)
		spoilInts(b.Hi)
		if !sameArray(x.a, before) {
			t.Error("Hull shares memory with its argument")
		}
	}
	one, empty := sample(), sample()
	one.Cells, empty.Cells = one.Cells[2:3], nil
	if b, is := space.Hull(one); !is || !sameBox(b, box(list(1, 1), list(1, 1))) {
		t.Error(b, is)
	}
	if b, is := space.Hull(empty); is || !isNoBox(b) {
		t.Error(b)
	}
	for k, x := range spoiledArrays() {
		if b, is := space.Hull(x.a); is || !isNoBox(b) {
			t.Error(k, b)
		}
	}
}

func TestCut(t *testing.T) {
	for _, b := range append(boxes(), box(list(-most, -2, 5), list(0, api.Open, 9)), box(list(0, 0), list(api.Open, 0))) {
		for k, a := range []api.Array{sample(), mixed(), full()} {
			if len(b.Lo) != len(a.Dims) {
				if y, e := space.Cut(a, b); e != api.ErrShape || !isZero(y) {
					t.Error(k, b, y, e)
				}
				continue
			}
			want := deep(a)
			want.Cells = slices.DeleteFunc(want.Cells, func(c api.Cell) bool { return !space.Has(b, c.At) })
			y, e := space.Cut(a, b)
			if e != api.OK || !sameArray(y, want) {
				t.Error(k, b, y, e)
			}
			valid(t, y)
		}
	}
	for k, b := range formless() {
		if y, e := space.Cut(sample(), b); e != api.ErrShape || !isZero(y) {
			t.Error(k, y, e)
		}
	}
	for k, x := range spoiledArrays() {
		for _, b := range []api.Box{{}, box(list(0, 0), list(9, 9))} {
			if y, e := space.Cut(x.a, b); e != api.ErrArg || !isZero(y) {
				t.Error(k, y, e)
			}
		}
	}
	a := deep(sample())
	y, _ := space.Cut(a, box(list(0, 0), list(9, 9)))
	apart(t, "Cut", y, a, sample())
}

// P2.13

func TestInterProperties(t *testing.T) {
	l := boxes()
	for _, a := range l {
		for k, b := range l {
			c, is := space.Inter(a, b)
			if d, isToo := space.Inter(b, a); isToo != is || !sameBox(c, d) {
				t.Fatal("not commutative:", a, b)
			}
			for _, at := range probes() {
				if both := space.Has(a, at) && space.Has(b, at); both != space.Has(c, at) {
					t.Fatal(a, b, at)
				}
			}
			x := l[(7*k+3)%len(l)]
			first, is1 := space.Inter(c, x)
			right, is2 := space.Inter(b, x)
			second, is3 := space.Inter(a, right)
			if is && is2 && (is1 != is3 || !sameBox(first, second)) {
				t.Fatal("not associative:", a, b, x)
			}
		}
	}
}

func TestCutByHull(t *testing.T) {
	for k, a := range arrays() {
		b, is := space.Hull(a)
		if !is {
			continue
		}
		if y, e := space.Cut(a, b); e != api.OK || !space.Same(a, y) {
			t.Error(k, e)
		}
		for i := range b.Lo { // no smaller box has all cells
			higher, lower := slices.Clone(b.Lo), slices.Clone(b.Hi)
			higher[i]++
			lower[i]--
			for _, smaller := range []api.Box{box(higher, b.Hi), box(b.Lo, lower)} {
				if y, e := space.Cut(a, smaller); e != api.OK || len(y.Cells) >= len(a.Cells) {
					t.Error(k, i, e)
				}
			}
		}
	}
}
