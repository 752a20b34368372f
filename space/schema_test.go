package space_test

import (
	"strings"
	"testing"

	"tesseract/api"
	"tesseract/space"
)

// P2.1

func TestName(t *testing.T) {
	for _, s := range []string{"a", "z", "x", "a1", "a_", "a__9", "select", "zzzzzzzzzzzz", "a0123456789_"} {
		if !space.Name(s) {
			t.Error(s)
		}
	}
	for _, s := range []string{"", "A", "aB", "Z", "1", "1a", "_", "_a", "a b", " a", "a ", "a-", "a.b", "a\n", "a\x00", "é", "aé", "`", "{", "a`", "a{", "a/", "a:", "a@", "a[", "aaaaaaaaaaaaa", strings.Repeat("a", 100000)} {
		if space.Name(s) {
			t.Error(s)
		}
	}
}

func TestDims(t *testing.T) {
	five := dims(dim("a", 0, 0), dim("b", 0, 0), dim("c", 0, 0), dim("d", 0, 0), dim("e", 0, 0))
	for k, x := range []struct {
		d    []api.Dim
		want api.Errno
	}{
		{nil, api.ErrShape}, {dims(), api.ErrShape}, {five, api.ErrShape}, {five[:4], api.OK}, {five[:1], api.OK},
		{dims(five[0], five[1], five[2], five[3], dim("", 1, 0)), api.ErrShape},
		{dims(dim("", 0, 0)), api.ErrName}, {dims(dim("X", 0, 0)), api.ErrName}, {dims(dim("abcdefghijklm", 0, 0)), api.ErrName},
		{dims(dim("x", 0, 0), dim("x", 0, 0)), api.ErrName}, {dims(dim("x", 0, 0), dim("y", 0, 0), dim("x", 1, 0)), api.ErrName},
		{dims(dim("x", 1, 0), dim("x", 0, 0)), api.ErrRange}, {dims(dim("x", 0, 0), dim("y", 1, 0), dim("", 0, 0)), api.ErrRange}, {dims(dim("", 1, 0)), api.ErrName},
		{dims(dim("x", -api.MaxCoord, -api.MaxCoord)), api.OK}, {dims(dim("x", api.MaxCoord, api.MaxCoord)), api.OK}, {dims(dim("x", -api.MaxCoord, api.Open)), api.OK},
		{dims(dim("x", api.MaxCoord, api.Open)), api.OK}, {dims(dim("x", -api.MaxCoord-1, 0)), api.ErrRange}, {dims(dim("x", api.Open, api.Open)), api.ErrRange},
		{dims(dim("x", 0, api.Open+1)), api.ErrRange}, {dims(dim("x", 5, 4)), api.ErrRange},
		{dims(dim("x", farNumbers[0], 0)), api.ErrRange}, {dims(dim("x", 0, farNumbers[5])), api.ErrRange}, {dims(dim("x", farNumbers[5], farNumbers[0])), api.ErrRange}, {dims(dim("x", 0, farNumbers[0])), api.ErrRange},
	} {
		if e := space.Schema(x.d, []api.Attr{attr("v", api.TInt)}); e != x.want {
			t.Error(k, e, x.want)
		}
		if b, e := space.Whole(x.d); e != x.want || e != api.OK && !isNoBox(b) {
			t.Error(k, b, e)
		}
		if x.want == api.OK {
			continue
		}
		if e := space.Schema(x.d, nil); e != x.want {
			t.Error("before the attributes:", k, e)
		}
		if n, e := space.Volume(x.d); n != 0 || e != x.want {
			t.Error(k, n, e)
		}
		if n, e := space.Index(x.d, nil); n != 0 || e != x.want {
			t.Error(k, n, e)
		}
		if at, e := space.At(x.d, -1); len(at) != 0 || e != x.want {
			t.Error(k, at, e)
		}
		if e := space.Layout(x.d, api.Layout{}); e != x.want {
			t.Error(k, e)
		}
	}
}

func TestAttrs(t *testing.T) {
	d := dims(dim("x", 0, 0), dim("y", 0, api.Open))
	seven := []api.Attr{attr("a", 1), attr("b", 2), attr("c", 3), attr("d", 4), attr("e", 1), attr("f", 2), attr("g", 3)}
	for k, x := range []struct {
		a    []api.Attr
		want api.Errno
	}{
		{nil, api.ErrMany}, {[]api.Attr{}, api.ErrMany}, {seven, api.ErrMany}, {seven[:6], api.OK}, {seven[3:4], api.OK},
		{[]api.Attr{attr("x", 0)}, api.ErrName}, {[]api.Attr{attr("y", 1)}, api.ErrName}, {[]api.Attr{attr("", 1)}, api.ErrName}, {[]api.Attr{attr("V", 9)}, api.ErrName},
		{[]api.Attr{attr("v", 1), attr("v", 1)}, api.ErrName}, {[]api.Attr{attr("v", 0), attr("v", 1)}, api.ErrType}, {[]api.Attr{attr("v", 1), attr("w", 1), attr("v", 0)}, api.ErrName},
		{[]api.Attr{attr("v", 0)}, api.ErrType}, {[]api.Attr{attr("v", 5)}, api.ErrType}, {[]api.Attr{attr("v", -1)}, api.ErrType}, {[]api.Attr{attr("v", farNumbers[0])}, api.ErrType}, {[]api.Attr{attr("v", farNumbers[5])}, api.ErrType},
	} {
		if e := space.Schema(d, x.a); e != x.want {
			t.Error(k, e, x.want)
		}
	}
}

// P2.4

func TestDatabase(t *testing.T) {
	var sixteen api.DB
	for k := range api.MaxArrays {
		sixteen = append(sixteen, named("a"+string(rune('a'+k)), sample()))
	}
	broken := sample()
	broken.Cells[1].At[0] = 9
	for k, x := range []struct {
		db   api.DB
		want api.Errno
	}{
		{nil, api.OK}, {api.DB{}, api.OK}, {sixteen, api.OK}, {append(sixteen[:16:16], named("", broken)), api.ErrMany},
		{api.DB{named("a", sample()), named("b", mixed())}, api.OK},
		{api.DB{named("A", sample())}, api.ErrName}, {api.DB{named("", broken)}, api.ErrName}, {api.DB{named("a", sample()), named("a", broken)}, api.ErrName},
		{api.DB{named("a", broken)}, api.ErrArg}, {api.DB{named("a", api.Array{})}, api.ErrArg}, {api.DB{named("a", broken), named("a", sample())}, api.ErrArg},
		{api.DB{named("a", sample()), named("b", sample()), named("b", sample()), named("c", broken)}, api.ErrName},
	} {
		if e := space.Database(x.db); e != x.want {
			t.Error(k, e, x.want)
		}
		for _, name := range []string{"a", "A", ""} {
			if a, is := space.Find(x.db, name); x.want != api.OK && (is || !isZero(a)) {
				t.Error(k, a)
			}
		}
	}
}

func TestFind(t *testing.T) {
	db := api.DB{named("a", deep(sample())), named("b", deep(mixed()))}
	for _, name := range []string{"", "c", "A", "ab"} {
		if a, is := space.Find(db, name); is || !isZero(a) {
			t.Error(name, a)
		}
	}
	if a, is := space.Find(db, "a"); !is || !sameArray(a, sample()) {
		t.Error(a, is)
	}
	a, is := space.Find(db, "b")
	if !is || !sameArray(a, mixed()) {
		t.Error(a, is)
	}
	apart(t, "Find", a, db[1].Array, mixed())
	if a, is := space.Find(nil, "a"); is || !isZero(a) {
		t.Error(a)
	}
}
