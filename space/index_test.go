package space_test

import (
	"slices"
	"testing"

	"tesseract/api"
	"tesseract/space"
)

// most is the greatest coordinate.
const most = api.MaxCoord

// P2.5

func TestVolume(t *testing.T) {
	whole := func(name string) api.Dim { return dim(name, -most, most) }
	for k, x := range []struct {
		d    []api.Dim
		want int
		e    api.Errno
	}{
		{dims(dim("x", 0, 0)), 1, api.OK}, {dims(dim("x", -2, 5)), 8, api.OK}, {dims(dim("x", most, most)), 1, api.OK},
		{dims(dim("x", -2, 5), dim("y", 1, 3), dim("z", 0, 0), dim("w", -9, -8)), 48, api.OK},
		{dims(whole("x")), 1<<31 + 1, api.OK},
		{dims(dim("x", 1-most, most), dim("y", 1-most, most)), 1 << 62, api.OK},
		{dims(dim("x", 1-most, most), dim("y", -most, most)), 0, api.ErrOver},
		{dims(dim("x", -most, most), dim("y", 1-most, most)), 0, api.ErrOver},
		{dims(dim("x", 1-most, most), dim("y", 1-most, most), dim("z", 4, 4)), 1 << 62, api.OK},
		{dims(dim("x", 1-most, most), dim("y", 1-most, most), dim("z", 4, 5)), 0, api.ErrOver},
		{dims(dim("x", 1, 2), dim("y", 1, 1<<20), dim("z", 1, 1<<20), dim("w", 1, 1<<21)), 1 << 62, api.OK},
		{dims(dim("x", 1, 3), dim("y", 1, 1<<20), dim("z", 1, 1<<20), dim("w", 1, 1<<21)), 0, api.ErrOver},
		{dims(whole("x"), whole("y"), whole("z"), whole("w")), 0, api.ErrOver},
		{dims(dim("x", 1, 1<<16), dim("y", 1, 1<<16), dim("z", 1, 1<<16), dim("w", 1, 1<<16)), 0, api.ErrOver},
		{dims(dim("x", 0, api.Open)), 0, api.ErrRange}, {dims(dim("x", most, api.Open)), 0, api.ErrRange},
		{dims(whole("x"), whole("y"), whole("z"), dim("w", 0, api.Open)), 0, api.ErrRange},
		{dims(dim("x", 0, api.Open), dim("x", 0, 1)), 0, api.ErrName},
	} {
		if n, e := space.Volume(x.d); n != x.want || e != x.e {
			t.Error(k, n, e)
		}
		if x.e == api.OK {
			continue
		}
		if n, e := space.Index(x.d, list(0)); n != 0 || e != x.e {
			t.Error("Index:", k, n, e)
		}
		if at, e := space.At(x.d, -1); len(at) != 0 || e != x.e {
			t.Error("At:", k, at, e)
		}
	}
}

func TestIndexRefuses(t *testing.T) {
	d := dims(dim("x", -2, 5), dim("y", 1, 3))
	for k, x := range []struct {
		at   []int
		want api.Errno
	}{
		{nil, api.ErrShape}, {list(0), api.ErrShape}, {list(9, 9, 9), api.ErrShape},
		{list(-3, 1), api.ErrRange}, {list(6, 1), api.ErrRange}, {list(0, 0), api.ErrRange}, {list(0, 4), api.ErrRange},
		{list(farNumbers[0], 1), api.ErrRange}, {list(farNumbers[5], 1), api.ErrRange}, {list(0, farNumbers[0]), api.ErrRange}, {list(0, farNumbers[5]), api.ErrRange},
	} {
		if n, e := space.Index(d, x.at); n != 0 || e != x.want {
			t.Error(k, n, e)
		}
	}
	for _, i := range append(slices.Clone(farNumbers), -1, 24, 25) {
		if at, e := space.At(d, i); len(at) != 0 || e != api.ErrRange {
			t.Error(i, at, e)
		}
	}
}

// P2.13

func TestIndexAndAt(t *testing.T) {
	for _, d := range [][]api.Dim{
		dims(dim("x", -2, 5)), dims(dim("x", 7, 7)), dims(dim("x", -2, 5), dim("y", 1, 3)), dims(dim("x", 0, 2), dim("y", -1, 1), dim("z", most-1, most), dim("w", -most, 1-most)),
	} {
		b, _ := space.Whole(d)
		for i, want := range within(b) {
			at, e := space.At(d, i)
			if e != api.OK || !slices.Equal(at, want) {
				t.Fatal(d, i, at, e)
			}
			if k, e := space.Index(d, want); k != i || e != api.OK {
				t.Fatal(d, want, k, e)
			}
			spoilInts(at)
		}
	}
	big := dims(dim("x", 1-most, most), dim("y", 1-most, most))
	var before int
	for k, x := range []struct {
		i  int
		at []int
	}{
		{0, list(1-most, 1-most)}, {1, list(1-most, 2-most)}, {1<<31 - 1, list(1-most, most)}, {1 << 31, list(2-most, 1-most)}, {1<<61 - 1, list(0, most)}, {1 << 61, list(1, 1-most)}, {1<<62 - 2, list(most, most-1)}, {1<<62 - 1, list(most, most)},
	} {
		at, e := space.At(big, x.i)
		i, f := space.Index(big, x.at)
		if e != api.OK || f != api.OK || !slices.Equal(at, x.at) || i != x.i || k > 0 && i <= before {
			t.Error(k, at, e, i, f)
		}
		before = i
	}
	if at, e := space.At(big, 1<<62); len(at) != 0 || e != api.ErrRange {
		t.Error(at, e)
	}
}
