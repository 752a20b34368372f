package space_test

import (
	"slices"
	"strings"
	"testing"

	"tesseract/api"
	"tesseract/space"
)

// P2.9

const (
	sampleText = "dim x 0:3\ndim y 0:1\nattr v int\n0 0: 5\n1 0: 7\n1 1: ?1\n3 1: 2\n"
	mixedText  = "dim a -1073741824:*\ndim b_2 -2:-2\ndim cc 5:1073741824\nattr p bool\nattr q int\nattr r rat\nattr s text\n" +
		"-1073741824 -2 5: true, -1099511627776, -1/2, 'it''s, a: ''b'''\n" +
		"-1 -2 9: false, 0, 7, ''\n" +
		"-1 -2 10: ?1, ?255, ?4, ?9\n" +
		"0 -2 6: ?2, 3, 7/1099511627776, ''', '' : ?1'\n" +
		"1073741824 -2 1073741824: true, 1099511627776, 0, 'sixteen bytes ab'\n"
)

func TestPrint(t *testing.T) {
	for k, x := range []struct {
		a    api.Array
		want string
	}{
		{sample(), sampleText}, {mixed(), mixedText},
		{api.Array{Dims: dims(dim("x", 0, 0)), Attrs: []api.Attr{attr("v", api.TBool)}}, "dim x 0:0\nattr v bool\n"},
	} {
		if s, e := space.Print(x.a); s != x.want || e != api.OK {
			t.Error(k, s, e)
		}
		a, e := space.Parse(x.want)
		if e != api.OK || !sameArray(a, x.a) {
			t.Error(k, a, e)
		}
		valid(t, a)
	}
	for k, x := range spoiledArrays() {
		if s, e := space.Print(x.a); s != "" || e != api.ErrArg {
			t.Error(k, s, e)
		}
	}
}

func TestParseRefuses(t *testing.T) {
	l := []string{
		"", "\n", " ", "dim", "dim ", "dim x", "dim x 0:3", "dim x 0:3\n", "attr v int\n", "dim x 0:3\nattr v int", "\ndim x 0:3\nattr v int\n",
		"attr v int\ndim x 0:3\n", "dim x 0:3\nattr v int\ndim y 0:3\n", "dim x 0:3\n0: 5\nattr v int\n",
		"dim x 0:3\nattr x int\n", "dim x 0:3\ndim x 0:3\nattr v int\n", "dim X 0:3\nattr v int\n", "dim x 3:0\nattr v int\n", "dim x 0:3\nattr v int\nattr v int\n",
		"dim x 0:3:\nattr v int\n", "dim x :3\nattr v int\n", "dim x 0:\nattr v int\n", "dim x 0\nattr v int\n", "dim x *:3\nattr v int\n", "dim x 0:**\nattr v int\n", "dim  0:3\nattr v int\n",
		"dim x 0:1073741825\nattr v int\n", "dim x 0:1073741826\nattr v int\n", "dim x -1073741825:0\nattr v int\n", "dim x -0:3\nattr v int\n", "dim x +0:3\nattr v int\n", "dim x 00:3\nattr v int\n", "dim x 0:03\nattr v int\n", "dim x 0_0:3\nattr v int\n", "dim x 0x0:3\nattr v int\n",
		"dim x 0:99999999999999999999\nattr v int\n", "dim x -99999999999999999999:3\nattr v int\n", "dim x 0:3 \nattr v int\n", "dim x 0: 3\nattr v int\n", "dim x  0:3\nattr v int\n", " dim x 0:3\nattr v int\n", "dim x 0:3\r\nattr v int\r\n", "DIM x 0:3\nattr v int\n", "dim\tx\t0:3\nattr v int\n",
		"dim x 0:3\nattr v\n", "dim x 0:3\nattr v \n", "dim x 0:3\nattr v Int\n", "dim x 0:3\nattr v ints\n", "dim x 0:3\nattr v int \n", "dim x 0:3\nattr  v int\n", "dim x 0:3\nattr v int int\n", "dim x 0:3\nattr v number\n",
		"dim x 0:3\nattr v rat\n0: 2/4\n", "dim x 0:3\nattr v rat\n0: 3/1\n", "dim x 0:3\nattr v int\n0: 1/2\n", "dim x 0:3\nattr v int\n0: 1099511627777\n", "dim x 0:3\nattr v bool\n0: True\n",
		"dim x 0:3\nattr v text\n0: 'a\n", "dim x 0:3\nattr v text\n0: a'\n", "dim x 0:3\nattr v text\n0: 'a'b'\n", "dim x 0:3\nattr v text\n0: 'é'\n", "dim x 0:3\nattr v text\n0: 'seventeen bytes a'\n", "dim x 0:3\nattr v text\n0: 'a\nb'\n",
		"dim a 0:3\ndim b 0:3\ndim c 0:3\ndim d 0:3\ndim e 0:3\nattr v int\n", strings.Repeat("dim x 0:3\n", 5000), "dim x 0:3\nattr v int\n0: " + strings.Repeat("9", 50000) + "\n", "dim x 0:*\nattr v int\n" + strings.Repeat("9", 50000) + ": 1\n",
	}
	for _, x := range [][2]string{
		{"1 0: 7\n", "1 0: 7\n1 0: 7\n"}, {"1 0: 7\n", "1 1: 7\n"}, {"1 0: 7\n", "0 0: 7\n"}, {"3 1: 2\n", "4 1: 2\n"}, {"3 1: 2\n", "3: 2\n"}, {"3 1: 2\n", "3 1 0: 2\n"}, {"3 1: 2\n", "3 1: 2, 2\n"}, {"3 1: 2\n", "3 1:\n"}, {"3 1: 2\n", "3 1: \n"}, {"3 1: 2\n", "3 1\n"},
		{"3 1: 2\n", "3 1:2\n"}, {"3 1: 2\n", "3 1:  2\n"}, {"3 1: 2\n", "3  1: 2\n"}, {"3 1: 2\n", " 3 1: 2\n"}, {"3 1: 2\n", "3 1 : 2\n"}, {"3 1: 2\n", "3 1: 2 \n"}, {"3 1: 2\n", "3 1: 2\n\n"}, {"3 1: 2\n", "3 1: 2"}, {"3 1: 2\n", "3 1: 2\x00\n"}, {"3 1: 2\n", "3, 1: 2\n"}, {"3 1: 2\n", "3 1: 2,\n"},
		{"3 1: 2\n", "03 1: 2\n"}, {"3 1: 2\n", "+3 1: 2\n"}, {"3 1: 2\n", "3 1: +2\n"}, {"3 1: 2\n", "3 1: 02\n"}, {"3 1: 2\n", "3 1: -0\n"}, {"?1", "?0"}, {"?1", "?01"}, {"?1", "?256"}, {"?1", "true"}, {"?1", "'a'"}, {"?1", "1/2"}, {"0 0", "-0 0"}, {"3 1: 2\n", "a 1: 2\n"},
	} {
		l = append(l, strings.Replace(sampleText, x[0], x[1], 1))
	}
	for _, x := range [][2]string{{", 0, 7", ",0, 7"}, {", 0, 7", ",  0, 7"}, {", 0, 7", " 0, 7"}, {", 0, 7", ", 0 , 7"}, {", 0, 7", ", 0, 7, 8"}, {"''b''", "'b''"}, {", ''\n", ", '''\n"}, {"'it''s", "'it's"}, {"true, ", ", true, "}} {
		l = append(l, strings.Replace(mixedText, x[0], x[1], 1))
	}
	for _, s := range l {
		if a, e := space.Parse(s); e != api.ErrForm || !isZero(a) {
			t.Errorf("%.80q: %v, %d", s, a, e)
		}
	}
}

func TestParseAtLimit(t *testing.T) {
	s, e := space.Print(full())
	if a, f := space.Parse(s); e != api.OK || f != api.OK || !sameArray(a, full()) {
		t.Error(e, f)
	}
	if a, e := space.Parse(s + "4097: 1\n"); e != api.ErrForm || !isZero(a) {
		t.Error("one cell too many:", e)
	}
	six := "dim a 0:0\ndim b 0:0\ndim c 0:0\ndim d 0:0\nattr e int\nattr f int\nattr g int\nattr h int\nattr i int\nattr j int\n0 0 0 0: 1, 2, 3, 4, 5, 6\n"
	if a, e := space.Parse(six); e != api.OK || len(a.Cells) != 1 {
		t.Error(a, e)
	}
	if a, e := space.Parse(strings.Replace(six, "int\n0", "int\nattr k int\n0", 1)); e != api.ErrForm || !isZero(a) {
		t.Error(a, e)
	}
}

// P2.14

func TestStrings(t *testing.T) {
	l := arrays()
	var met []string
	for k, a := range l {
		s, e := space.Print(a)
		if b, f := space.Parse(s); e != api.OK || f != api.OK || !space.Same(a, b) {
			t.Error(k, s, e, f)
		}
		if slices.Contains(met, s) {
			t.Error("two arrays have the string", s)
		}
		met = append(met, s)
	}
}

// TestChangedStrings changes a byte of a string: what is then read has this string.
func TestChangedStrings(t *testing.T) {
	read := 0
	for _, s := range []string{sampleText, mixedText} {
		for i := range len(s) {
			for _, c := range []string{"", "0", "1", "-", "'", ",", " ", ":", "\n", "*", "?", "/", "x", "dim ", "\x00", "\xff"} {
				for _, changed := range []string{s[:i] + c + s[i+1:], s[:i] + c + s[i:]} {
					a, e := space.Parse(changed)
					if e == api.ErrForm && isZero(a) {
						continue
					}
					again, f := space.Print(a)
					if e != api.OK || f != api.OK || again != changed {
						t.Fatalf("%q: %q, %d, %d", changed, again, e, f)
					}
					read++
				}
			}
		}
	}
	if read < 100 {
		t.Error("only", read, "strings were read")
	}
}
