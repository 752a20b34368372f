package algebra_test

import (
	"slices"
	"testing"

	"tesseract/algebra"
	"tesseract/api"
	"tesseract/space"
)

// P4.13

func TestSchemas(t *testing.T) {
	for _, c := range calls() {
		with := must(c.run(c.a, c.b))
		without := must(c.run(schemaOf(c.a), schemaOf(c.b)))
		if !sameSchema(with, without) || len(without.Cells) != 0 {
			t.Error(c.what, "the schema of the result depends on the cells")
		}
	}
	d := dice(21)
	failed := 0
	for range 3000 {
		a := d.some(names("x", "y", "z"), names("u", "v", "w"), 20)
		b := d.some(names("x", "y", "q"), names("p", "v", "r"), 20)
		by := d.scalar(d.some(names("x", "y", "z"), names("u", "v", "w"), 0), d.from(api.TBool, api.TText), 3)
		seed := d.next()
		run := func(a, b api.Array) (api.Array, api.Errno) {
			r := dice(seed)
			return r.operation(a, b, by)
		}
		got, e := run(a, b)
		want, f := run(schemaOf(a), schemaOf(b))
		if e == api.ErrConflict {
			e, got = api.OK, want
		}
		if e != f || !sameSchema(got, want) {
			t.Fatal(schemaOf(a), schemaOf(b), e, f)
		}
		if e != api.OK {
			failed++
		}
	}
	if failed < 300 || failed > 2700 {
		t.Error("too few results of one kind were tested:", failed)
	}
}

// operation returns the result of one of the operations.
func (d *dice) operation(a, b api.Array, by api.Scalar) (api.Array, api.Errno) {
	name := func() string { return pick(d, "x", "y", "z", "u", "v", "w") }
	switch d.from(1, 12) {
	case 1:
		return algebra.Subarray(a, list(0, 0, 0)[:d.from(1, 3)], list(2, 2, 2)[:d.from(1, 3)])
	case 2:
		return algebra.Filter(a, by)
	case 3:
		return algebra.Apply(a, pick(d, "x", "n"), by)
	case 4:
		return algebra.Project(a, shuffled(d, "u", "v", "w"))
	case 5:
		return algebra.Rename(a, name(), name())
	case 6:
		return algebra.Reshape(a, d.dims("p", name()))
	case 7:
		return algebra.Transpose(a, shuffled(d, "x", "y", "z"))
	case 8:
		return algebra.Concat(a, pick(d, a, b), name())
	case 9:
		return algebra.Join(a, b)
	case 10:
		return algebra.Cross(a, b)
	case 11:
		return algebra.Merge(a, pick(d, a, b))
	}
	return algebra.Redim(a, d.dims(shuffled(d, "x", "y", "u", "v")[:1]...), shuffled(d, "z", "w", "u"), d.from(api.Fail, api.Last))
}

// P4.14

func TestChoosing(t *testing.T) {
	d := dice(22)
	for range 800 {
		a := d.some(names("x", "y", "z"), names("u", "v", "w"), 30)
		p, q := d.scalar(a, api.TBool, 4), d.scalar(a, api.TBool, 4)
		if _, e := algebra.Type(a, op(api.SAnd, p, q)); e != api.OK {
			continue
		}
		var boxes [2]api.Box
		for k := range boxes {
			for _, x := range a.Dims {
				lo := x.Lo + d.from(-1, 2)
				boxes[k].Lo, boxes[k].Hi = append(boxes[k].Lo, lo), append(boxes[k].Hi, pick(&d, lo, lo+2, lo+4, api.Open, api.Open+3))
			}
		}
		filtered := must(algebra.Filter(a, p))
		both, e := algebra.Filter(a, op(api.SAnd, p, q))
		expect(t, "filters", both, e, must(algebra.Filter(filtered, q)), api.OK)

		cut, e := algebra.Subarray(a, boxes[0].Lo, boxes[0].Hi)
		exchanged, f := algebra.Subarray(filtered, boxes[0].Lo, boxes[0].Hi)
		if e != f {
			t.Fatal(e, f)
		}
		if e != api.OK {
			continue
		}
		b, e := algebra.Filter(cut, p)
		expect(t, "exchanged", b, e, exchanged, api.OK)
		twice, e := algebra.Subarray(cut, boxes[1].Lo, boxes[1].Hi)
		common, is := space.Inter(boxes[0], boxes[1])
		if !is {
			expectError(t, "boxes without a common part", twice, e, api.ErrRange)
			continue
		}
		once, f := algebra.Subarray(a, common.Lo, common.Hi)
		expect(t, "subarrays", twice, e, once, f)
	}
}

// P4.15

func TestBack(t *testing.T) {
	d := dice(23)
	for range 500 {
		a := d.some(names("w", "x", "y", "z"), names("u", "v"), 20)
		var order []string
		for _, x := range a.Dims {
			order = append(order, x.Name)
		}
		turned := slices.Clone(order)
		for k := range turned {
			i := d.from(0, k)
			turned[k], turned[i] = turned[i], turned[k]
		}
		b, e := algebra.Transpose(must(algebra.Transpose(a, turned)), order)
		expect(t, "transpose", b, e, a, api.OK)
		for _, name := range append(order, a.Attrs[0].Name) {
			b, e := algebra.Rename(must(algebra.Rename(a, name, "other")), "other", name)
			expect(t, "rename", b, e, a, api.OK)
		}
		if volume, e := space.Volume(a.Dims); e == api.OK && volume <= 1<<30 {
			b, e := algebra.Reshape(must(algebra.Reshape(a, dims(dim("n", -7, volume-8)))), a.Dims)
			expect(t, "reshape", b, e, a, api.OK)
		}
		back(t, &d, a)
	}
}

// back checks that the parts of a concatenation are its operands.
func back(t *testing.T, d *dice, a api.Array) {
	k := d.from(0, len(a.Dims)-1)
	other := slices.Clone(a.Dims)
	other[k].Lo = d.from(-5, 5)
	other[k].Hi = other[k].Lo + d.from(0, 5)
	b := d.array(other, a.Attrs, 20)
	c, e := algebra.Concat(a, b, other[k].Name)
	if e != api.OK {
		return
	}
	lo, hi := make([]int, len(other)), make([]int, len(other))
	for i, x := range c.Dims {
		lo[i], hi[i] = x.Lo, x.Hi
	}
	hi[k] = a.Dims[k].Hi
	first, e := algebra.Subarray(c, lo, hi)
	expect(t, "the first part", first, e, a, api.OK)
	lo[k], hi[k] = hi[k]+1, c.Dims[k].Hi
	second := must(algebra.Subarray(c, lo, hi))
	shift := second.Dims[k].Lo - other[k].Lo
	for i := range second.Cells {
		second.Cells[i].At[k] -= shift
	}
	second.Dims[k].Lo -= shift
	second.Dims[k].Hi -= shift
	expect(t, "the second part", second, api.OK, b, api.OK)
}

// P4.16

// arranged returns an array with its dimensions and attributes in the order of those of another one.
func arranged(a, like api.Array) api.Array {
	return ofRecords(like.Dims, like.Attrs, records(a))
}

func TestJoining(t *testing.T) {
	d := dice(24)
	joined, crossed := 0, 0
	for range 1500 {
		a := d.some(names("x", "y", "z"), names("u", "v"), 20)
		b := d.some(names("x", "y", "p"), names("r", "s"), 20)
		c, e := algebra.Join(a, b)
		other, f := algebra.Join(b, a)
		if e != f {
			t.Fatal(e, f)
		}
		if e == api.OK {
			expect(t, "join", c, e, arranged(other, c), api.OK)
			joined += len(c.Cells)
		}
		b = d.some(names("p", "q"), names("r", "s"), 20)
		c, e = algebra.Cross(a, b)
		other, f = algebra.Cross(b, a)
		if e != f {
			t.Fatal(e, f)
		}
		if e == api.OK {
			expect(t, "cross", c, e, arranged(other, c), api.OK)
			crossed += len(c.Cells)
		}
	}
	if joined < 1000 || crossed < 1000 {
		t.Error("too few cells were joined:", joined, crossed)
	}
}

func TestJoinItself(t *testing.T) {
	d := dice(25)
	for range 300 {
		a := d.some(names("w", "x", "y", "z"), names("u", "v", "s"), 30)
		b := a
		for _, x := range a.Attrs {
			b = must(algebra.Rename(b, x.Name, x.Name+"2"))
		}
		c, e := algebra.Join(a, b)
		want := api.Array{Dims: a.Dims, Attrs: append(slices.Clone(a.Attrs), b.Attrs...)}
		for _, x := range a.Cells {
			want.Cells = append(want.Cells, cell(x.At, append(slices.Clone(x.Vals), x.Vals...)...))
		}
		expect(t, "an array with itself", c, e, want, api.OK)
	}
}

// P4.17

func TestMerging(t *testing.T) {
	d := dice(26)
	for range 500 {
		order := shuffled(&d, "x", "y", "z")
		attrs := d.attrs("u", "v")
		a, b, c := d.array(d.dims(order...), attrs, 15), d.array(d.dims(order...), attrs, 15), d.array(d.dims(order...), attrs, 15)
		m, e := algebra.Merge(a, a)
		expect(t, "itself", m, e, a, api.OK)
		m, e = algebra.Merge(must(algebra.Merge(a, b)), c)
		expect(t, "three", m, e, must(algebra.Merge(a, must(algebra.Merge(b, c)))), api.OK)
		b.Cells = slices.DeleteFunc(b.Cells, func(x api.Cell) bool {
			_, both := space.Get(a, x.At)
			return both
		})
		m, e = algebra.Merge(a, b)
		expect(t, "apart", m, e, must(algebra.Merge(b, a)), api.OK)
	}
}

// P4.18

func TestRedimension(t *testing.T) {
	d := dice(27)
	alike := 0
	for range 1000 {
		a := d.some(names("x", "y", "z"), names("u", "v", "w"), 12)
		var own []string
		for _, x := range a.Attrs {
			own = append(own, x.Name)
		}
		for rule := api.Fail; rule <= api.Last; rule++ {
			b, e := algebra.Redim(a, a.Dims, own, rule)
			expect(t, "its own dimensions", b, e, a, api.OK)
		}
		for _, x := range a.Dims {
			own = append(own, x.Name)
		}
		l := shuffled(&d, own...)
		n := d.from(0, len(l)-1)
		to := d.dims(l[:min(n, 3)]...)
		b, e := algebra.Redim(a, to, l[n:], api.Fail)
		if e != api.OK {
			continue
		}
		alike += len(b.Cells)
		for rule := api.First; rule <= api.Last; rule++ {
			c, e := algebra.Redim(a, to, l[n:], rule)
			expect(t, "no conflict", c, e, b, api.OK)
		}
	}
	if alike < 100 {
		t.Error("too few cells were moved:", alike)
	}
}
