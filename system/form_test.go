package system_test

import (
	"fmt"
	"strings"
	"testing"

	"tesseract/api"
	"tesseract/system"
)

// P12.3: lines, their parts and words

func TestBytesOfLines(t *testing.T) {
	s := begun(t)
	for k := range 256 {
		b := string([]byte{byte(k)})
		want := api.ErrForm
		if k >= 32 && k <= 126 {
			want = api.ErrNone // the name of an array that is not there
		}
		if k == ' ' || k == ';' {
			continue
		}
		for _, line := range []string{"show t" + b, "show " + b + "t", "show " + b + b} {
			if answer, e := s.Do(line); e != want || answer != "" {
				t.Errorf("%q: %q and the error %d, not %d", line, answer, e, want)
			}
		}
		if k < 32 || k > 126 {
			for _, line := range []string{b, b + "show t", "show t" + b, "show" + b + "t", "select * from t" + b, "select" + b + "* from t", "let a; select * from t" + b, "set t; 0 0: '" + b + "'"} {
				fails(t, s, api.ErrForm, line)
			}
		}
	}
	says(t, s, said{"create b; x 0:0; v text", "ok"}, said{"set b; 0: '!\"#~ ;:,[]'", "version 2"}, said{"show b", "dim x 0:0 / attr v text / 0: '!\"#~ ;:,[]'"})
}

func TestLongLines(t *testing.T) {
	s := begun(t)
	padded := func(line string, n int) string { return line + strings.Repeat(" ", n-len(line)) }
	for _, line := range []string{"show t", "select * from t", "let a; select * from t", "  show   t"} {
		does(t, s, padded(line, api.MaxLine))
		fails(t, s, api.ErrLong, padded(line, api.MaxLine+1), padded(line, 3*api.MaxLine))
		fails(t, s, api.ErrLong, strings.Repeat("\x00", api.MaxLine+1)) // before the bytes are looked at
		fails(t, s, api.ErrForm, strings.Repeat("\x00", api.MaxLine))
	}
}

func TestWordsOfLines(t *testing.T) {
	s := begun(t)
	for _, line := range []string{"show t", "   show t", "show    t   ", "   show   t   ", strings.Repeat(" ", 90) + "show" + strings.Repeat(" ", 90) + "t"} {
		says(t, s, said{line, shownTable})
	}
	says(t, s, said{"set t;0 0:8", "version 3"}, said{"  set   t   ;   0   0   :   9   ;1 0:7;1 1:?1", "version 4"}, said{"diff t 2 4", "0 0: 9"},
		said{"diff t 2 2", "none"}, said{"size t", "6"})
	for _, line := range []string{"", " ", ";", " ; ", ";;", "; show t", ";show t", "'", "';'", "''", "shows t", "Show t", "SHOW t", "showt", "sho", "show-t", "?", "selec * from t", "select* from t", "select; * from t", "'select' * from t"} {
		fails(t, s, api.ErrForm, line)
	}
}

// TestNumberOfWords adds words and parts to lines, and removes some.
func TestNumberOfWords(t *testing.T) {
	for _, line := range []string{
		"create a; x 0:1; v int", "let a; select * from t", "drop t", "layout t 2,2 1,0 hilbert runs lz", "set t; 0 0: 9", "commit t main 2; 0 0: 9",
		"branch t b 2", "cut t b2", "merge t main b2", "reclaim t -", "heads t", "log t", "diff t 1 2", "size t", "show t", "version t 1", "pin t 1", "unpin t",
		"explain; select * from t", "stats 1,1; select * from t", "needs 0:1,0:1; select * from t", "lineage 0,0; select * from t", "impact t 0,0; select * from t",
		"pyramid t 2,2 1; count() as n", "level t 1", "disk 99", "put a 1 t; 0 0: 8", "compact", "crash -", "recover", "load", "mul m m", "solve m m", "det m",
		"cluster 1 1", "fail 0", "back 1", "join", "repair", "ask 0,0; select * from t",
	} {
		ready := func() *system.System {
			s := begun(t)
			does(t, s, "branch t b2 1", "commit t b2 1; 3 0: 3", "pin t 2", "pyramid t 2,2 1; count() as n", "disk 200", "put b 1 t; 0 0: 1", "cluster 2 1", "fail 1",
				"create m; row 0:1, col 0:1; v int", "set m; 0 0: 1; 1 1: 1")
			return s
		}
		does(t, ready(), line)
		words, rest, more := strings.Cut(line, ";")
		spoiled := []string{line + ";", line + "; ", line + "; x", ";" + line, words + " x;" + rest, words + " 1;" + rest, words + " -;" + rest, words + "; ;" + rest}
		if !more {
			spoiled = []string{line + ";", line + ";;", line + " x", line + " 1", line + " -", line + "; x", ";" + line, "; " + line}
		}
		if k := strings.LastIndex(words, " "); k >= 0 {
			spoiled = append(spoiled, words[:k]+strings.TrimPrefix(";"+rest, ";"), strings.Replace(line, words, words[:k], 1))
		}
		if more {
			spoiled = append(spoiled, words, words+rest)
		}
		s := ready()
		for _, x := range spoiled {
			if x != line {
				fails(t, s, api.ErrForm, x)
			}
		}
	}
}

// Bytes ; in quotes do not divide a line, in any of its parts.
func TestQuotes(t *testing.T) {
	s := begun(t)
	does(t, s, "create b; x 0:9; v text, w text")
	says(t, s, said{"set b; 0: 'a;b', ';;'; 1: ''';''', ','; 2: ':', '''' ; 3: '', ''", "version 2"},
		said{"show b", "dim x 0:9 / attr v text / attr w text / 0: 'a;b', ';;' / 1: ''';''', ',' / 2: ':', '''' / 3: '', ''"},
		said{"let a; select v from b where v = 'a;b'", "cells 1"},
		said{"explain; select v from b where v = 'a;b'", "project(filter(b; (.v = 'a;b')); v) / project(filter(b; (.v = 'a;b')); v) / none"})
	says(t, s, said{"select v from b where v = 'a;b'", "dim x 0:9 / attr v text / 0: 'a;b'"}, said{"select w from b where v = ''';'''", "dim x 0:9 / attr w text / 1: ','"})
	fails(t, s, api.ErrForm, "set b; 0: 'a", "set b; 0: a;b, 'c'", "set b; '0': 'a', 'b'", "set b; 0 ':' : 'a', 'b'", "set b; 0: 'a''; 1: 'b', 'c'", "show b;'", "select v from b where v = 'a;b")
	fails(t, s, api.ErrNone, "show 'b;'", "show 'b;", "show b';", "show ';'", "show 'b", "show b'")
}

// P12.3: the forms of arguments

// formed checks which strings have a form: those of good lead to another error, or to none, if they stand in a line; those of bad to ErrForm.
func formed(t *testing.T, s *system.System, line string, good, bad []string) {
	t.Helper()
	for _, x := range bad {
		fails(t, s, api.ErrForm, fmt.Sprintf(line, x))
	}
	for _, x := range good {
		if got := saying(t, s, fmt.Sprintf(line, x)); got == fmt.Sprint("error ", int(api.ErrForm)) {
			t.Errorf(line+" has no form", x)
		}
	}
}

func TestIntegers(t *testing.T) {
	s := begun(t)
	good := []string{"0", "1", "2", "10", "100", "1234567890", "1099511627776", "-1", "-10", "-1099511627776"}
	bad := []string{"-", "--1", "-0", "+1", "00", "01", "-01", "1.", "1.0", "1e3", "0x1", "1_0", "1,2", ",", "1,", "'1'", "1099511627777", "-1099511627777", "9223372036854775807", "9223372036854775808", "18446744073709551616", "18446744073709551617", "99999999999999999999999999", "-9223372036854775808", "a", "1a", "a1", "1-", "1:1", "*", "~"}
	for _, line := range []string{"version t %s", "diff t 1 %s", "diff t %s 1", "branch t x %s", "commit t other %s; 0 0: 1", "pin t %s", "level t %s", "cluster 0 %s", "cluster %s 0"} {
		formed(t, s, line, good, bad)
	}
	says(t, s, said{"cluster 1 1", "ok"}, said{"disk 200", "room 78"})
	for _, line := range []string{"fail %s", "back %s", "put a %s other; 0 0: 1", "put T %s t; 0 0: 1", "disk %s"} {
		formed(t, s, line, good, bad)
	}
	says(t, s, said{"put t1 1099511627776 t; 0 0: 1", "new"}, said{"put t2 1099511627776 t; 0 0: 1099511627776", "new"}, said{"set t; 0 0: -1099511627776", "version 3"})
	fails(t, s, api.ErrRange, "put t3 -1 t; 0 0: 1", "set t; -1 0: 1", "set t; 1099511627776 0: 1", "disk -64", "fail 1099511627776", "back -1")
	fails(t, s, api.ErrNone, "version t 1099511627776", "version t -1", "version t 0", "diff t 1 -1099511627776")
	fails(t, s, api.ErrArg, "cluster 1099511627776 1", "cluster 1 -1")
}

func TestLists(t *testing.T) {
	s := begun(t)
	does(t, s, "disk 200", "cluster 1 1")
	good := []string{"-", "0", "-1", "1,2", "1,2,3,4,5,6,7,8,9", "-5,-6", "0,0", "1099511627776,-1099511627776", strings.Repeat("7,", 999) + "7"}
	bad := []string{",", "1,", ",1", "1,,2", "-,-", "1,-", "-,1", "--", "1,2,", "01", "1,02", "-0", "1,-0", "+1", "1;2", "1:2", "1.2", "a", "1,a", "1099511627777", "0,-1099511627777", "'1'", "[1]", "(1)", "1,2)"}
	for _, line := range []string{"reclaim t %s", "layout t %s 9 hilbert runs lz", "layout t 9 %s hilbert runs lz", "stats %s; select * from none", "lineage %s; select * from none", "impact t %s; select * from none", "pyramid t %s 9; count() as n", "ask %s; select * from none"} {
		formed(t, s, line, good, bad)
	}
	formed(t, s, "crash %s", []string{"256", "-1", "1,256", "-1,0", "1099511627776", strings.Repeat("7,", 256) + "7"}, bad)
	says(t, s, said{"crash 0,255,7", "ok"}, said{"recover", "batches 0"}, said{"crash -", "ok"})
	fails(t, s, api.ErrForm, "reclaim t 1, 2", "reclaim t 1 ,2", "layout t 2, 2 1,0 hilbert runs lz")
}

func TestBoxes(t *testing.T) {
	s := begun(t)
	good := []string{"0:1,0:1", "0:1", "-5:-6,0:*", "0:*,0:*", "1:0,1:0", "0:0,0:0,0:0,0:0,0:0", "-1099511627776:1099511627776,0:0"}
	bad := []string{"-", "", "0", "0:1,", ",0:1", "0:1,,0:1", "*", "*:1", "*:*", ":1", "0:", ":", "0:1:2", "0:1,0", "00:1,0:1", "0:01,0:1", "-0:1", "0:+1", "0:**", "0:1*", "0-1", "0:1;0:1", "1099511627777:*", "0:1099511627777", "a:b", "x", "0::1"}
	formed(t, s, "needs %s; select * from none", good, bad)
	formed(t, s, "needs %s; select * from t", good, bad)
	says(t, s, said{"needs -9:*,1:1099511627776; select * from t", "t 0:3, 1:1"}, said{"needs 9:*,0:0; select * from t", "none"}, said{"needs 1:0,0:0; select * from t", "none"})
	fails(t, s, api.ErrShape, "needs 0:1; select * from t", "needs 0:1,0:1,0:1; select * from t", "needs 0:0,0:0,0:0,0:0,0:0; select * from t")
	fails(t, s, api.ErrForm, "needs 0:1, 0:1; select * from t", "needs 0 :1,0:1; select * from t")
}

func TestLayoutForms(t *testing.T) {
	s := begun(t)
	good := []string{"rowmajor", "hilbert", "tiled1", "tiled4", "tiled64", "tiled65", "tiled0", "tiled1099511627776"}
	bad := []string{"row", "rowmajor1", "Hilbert", "hilbert2", "tiled", "tiled-1", "tiled-0", "tiled+1", "tiled04", "tiled4,4", "tiledx", "tile4", "tiled1099511627777", "1", "3", "-"}
	formed(t, s, "layout t 2,2 1,0 %s runs lz", good, bad)
	formed(t, s, "layout none 2,2 1,0 %s runs lz", good, bad)
	formed(t, s, "layout t 2,2 1,0 hilbert %s lz", []string{"dense", "runs", "coords"}, []string{"Dense", "run", "coord", "1", "-", "lz", "hilbert", "densely"})
	formed(t, s, "layout t 2,2 1,0 hilbert runs %s", []string{"plain", "rle", "lz"}, []string{"Plain", "lz77", "none", "1", "-", "dense", "rl", "rle,lz"})
	for _, order := range []string{"tiled0", "tiled65", "tiled1099511627776"} {
		fails(t, s, api.ErrArg, "layout t 2,2 1,0 "+order+" runs lz")
	}
	says(t, s, said{"layout t 2,1 2,1 tiled64 coords rle", "chunks 3"})
}

func TestDimensionForms(t *testing.T) {
	s := begun(t)
	good := []string{"x 0:1", "x   0:*", "x 0:1,y 0:1", " x 0:1 , y -5:5 ", "X 0:1", "x-y 0:1", "0 0:1", "x: 0:1", "* 0:1", "( 0:1", "x 1:0", "x 0:1, x 0:1", "a 0:0, b 0:0, c 0:0, d 0:0, e 0:0", "averyveryverylongname 0:1", "x -1099511627776:1099511627776", "select 0:1"}
	bad := []string{"", " ", ",", "x", "x 0", "0:1", "x 0:1 y 0:1", "x 0:1,", ",x 0:1", "x 0:1,,y 0:1", "x 0 :1", "x 0: 1", "x 0 : 1", "x :1", "x 0:", "x *:1", "x *", "x 00:1", "x 0:01", "x -0:1", "x 0:-0", "x 0-1", "x 0:1:2", "x 0:1 int", "x y 0:1", "x 0:1099511627777", "x 0:1;"}
	formed(t, s, "create t; %s; v int", good, bad)
	says(t, s, said{"create a;   y -5:* ,x    0:3,z 7:7 ; v int", "ok"}, said{"show a", "dim y -5:* / dim x 0:3 / dim z 7:7 / attr v int"})
	says(t, s, said{"create b; y 0:1073741825; v int", "ok"}, said{"show b", "dim y 0:* / attr v int"}) // the number of Open
	fails(t, s, api.ErrName, "create n; x 0:1, x 0:1; v int", "create n; x: 0:1; v int", "create n; 0 0:1; v int")
	fails(t, s, api.ErrRange, "create n; x 1:0; v int", "create n; x 0:1073741826; v int", "create n; x 1073741825:*; v int")
	fails(t, s, api.ErrShape, "create n; a 0:0, b 0:0, c 0:0, d 0:0, e 0:0; v int")
}

func TestAttributeForms(t *testing.T) {
	s := begun(t)
	good := []string{"v int", "v   bool", "v rat, w text", " v rat ,w text ", "V int", "int int", "1 int", "v int, v int", "a int, b int, c int, d int, e int, f int, g int", "v: int"}
	bad := []string{"", " ", ",", "v", "int", "v int,", ",v int", "v int,,w int", "v Int", "v ints", "v number", "v 1", "v int rat", "v w int", "v:int", "v 0:1", "v int;"}
	formed(t, s, "create t; x 0:1; %s", good, bad)
	says(t, s, said{"create a; x 0:1;   b bool ,i    int,r rat, t text", "ok"}, said{"show a", "dim x 0:1 / attr b bool / attr i int / attr r rat / attr t text"})
	fails(t, s, api.ErrName, "create n; x 0:1; x int", "create n; x 0:1; v int, v int", "create n; x 0:1; v: int")
	fails(t, s, api.ErrMany, "create n; x 0:1; a int, b int, c int, d int, e int, f int, g int")
}

func TestAggregateForms(t *testing.T) {
	s := begun(t)
	good := []string{"count() as n", "count(v) as n", "sum(v)   as   s", " sum(v) as s , avg(v) as a ", "min(v) as a,max(v) as b,var(v) as c,distinct(v) as d", "sum() as s", "sum(9_) as s", "sum(abcdefghijklmnopqrstuvwxyz0123456789_) as s", "sum(v) as S", "sum(v) as as", "sum(v) as (", "sum(v) as )", "count() as 1", "sum(v) as s, sum(v) as s", "sum(v) as sum(v)"}
	bad := []string{"", " ", ",", "sum", "sum(v)", "sum(v) s", "sum(v) as", "as s", "sum(v) as s t", "sum (v) as s", "sum( v) as s", "sum(v ) as s", "sum( ) as s", "sum(v)as s", "sum(v) ass", "sum(v) AS s", "Sum(v) as s", "total(v) as s", "(v) as s", "sum v as s", "sum(v as s", "sumv) as s", "sum(V) as s", "sum(v-w) as s", "sum(*) as s", "sum((v)) as s", "sum(v) as s,", ",sum(v) as s", "sum(v) as s,,count() as n", "v as s", "count as n", "sum(v)) as s", "sum(v) x as s", "sum(v) as s;"}
	formed(t, s, "pyramid t 2,2 1; %s", good, bad)
	formed(t, s, "pyramid none 2,2 1; %s", good, bad)
	says(t, s, said{"pyramid t 2,2 1; count() as a,  sum(v)   as b , avg(v) as c, min(v) as d,max(v) as e, var(v) as f", "ok"},
		said{"level t 1", "dim x 0:1 / dim y 0:0 / attr a int / attr b int / attr c rat / attr d int / attr e int / attr f rat / 0 0: 3, 12, 6, 5, 7, 1 / 1 0: 1, 2, 2, 2, 2, 0"},
		said{"pyramid t 4,2 1; distinct(v) as d, count(v) as n", "ok"}, said{"level t 1", "dim x 0:0 / dim y 0:0 / attr d int / attr n int / 0 0: 3, 3"})
	fails(t, s, api.ErrName, "pyramid t 2,2 1; sum() as s", "pyramid t 2,2 1; sum(9_) as s", "pyramid t 2,2 1; sum(v) as S", "pyramid t 2,2 1; sum(v) as sum(v)")
}

func TestChangeForms(t *testing.T) {
	s := begun(t)
	good := []string{"0 0: 1", "0 0:", "0 0 :", "0 0:   ", "0   0: 1", "0 0 : 1", "0 0:1", "-5 99: 1", "0: 1", "0 0 0 0 0 0: 1", "0 0: 1, 2", "0 0: 'a'", "0 0: 'a, b'", "0 0: ':'", "0 0: ?255", "0 0: true ,false", "0 0: -1/2", "0 0: 1099511627776"}
	bad := []string{"", " ", ":", ": 1", "0 0", "0 0 1", "0,0: 1", "0, 0: 1", "00 0: 1", "0 -0: 1", "x 0: 1", "0 *: 1", "0 0: 1,", "0 0: ,1", "0 0: 1,,2", "0 0: ,", "0 0: 05", "0 0: -0", "0 0: +1", "0 0: 1 2", "0 0: 2/4", "0 0: 1/0", "0 0: 1 / 2", "0 0: 1.5", "0 0: a", "0 0: 'a", "0 0: a'", "0 0: 'a' 'b'", "0 0: 'a'b'", "0 0: ?", "0 0: ?0", "0 0: ?256", "0 0: ? 1", "0 0: True", "0 0: null", "0 0: 1099511627777", "0 0: '12345678901234567'", "0 0: 1: 2", "0 0:: 1", "0:0: 1", "'0' 0: 1", "0 0 ':' 1", "1099511627777 0: 1", "0 0: ''a''"}
	does(t, s, "disk 200")
	for _, line := range []string{"set t; %s", "set t; 3 1: 9; %s", "set t; %s; 3 1: 9", "commit t other 1; %s", "put T 1 t; %s", "set none; %s"} {
		formed(t, s, line, good, bad)
	}
	fails(t, s, api.ErrForm, "set t; 0 0: 9;", "set t;; 0 0: 9", "set t; ; 0 0: 9", "set t")
	says(t, s, said{"create a; x -9:9; b bool, i int, r rat, s text", "ok"},
		said{"set a; -9 :true,1,1/2,'x' ;  9:  ?7  ,  ?8,?9 ,  ?10 ; 0: false, -5, 3, 'a:b, ''c'';'", "version 2"},
		said{"show a", "dim x -9:9 / attr b bool / attr i int / attr r rat / attr s text / -9: true, 1, 1/2, 'x' / 0: false, -5, 3, 'a:b, ''c'';' / 9: ?7, ?8, ?9, ?10"},
		said{"diff a 2 1", "-9: / 0: / 9:"}, said{"diff a 1 2", "-9: true, 1, 1/2, 'x' / 0: false, -5, 3, 'a:b, ''c'';' / 9: ?7, ?8, ?9, ?10"})
	many := "set a"
	for k := -9; k <= 9; k++ {
		many += fmt.Sprintf("; %d: ?1, 1, 2, '%s'", k, strings.Repeat("''", 16))
	}
	says(t, s, said{many, "version 3"})
}

// A query is any part; that of select is the whole line, which is not divided.
func TestQueryForms(t *testing.T) {
	s := begun(t)
	for _, line := range []string{"select * from t", "   select   *   from   t   ", "select *from t", "select v from t", "select * from t where v = v or v != 1 or missing(v)"} {
		says(t, s, said{line, shownTable})
	}
	for _, q := range []string{"", "x", "select", "* from t", "select * from", "from t", "select v, from t", "select * from t x"} {
		fails(t, s, api.ErrForm, "let a; "+q, "explain; "+q, "stats 0,0; "+q, "needs 0:0,0:0; "+q, "lineage 0,0; "+q, "impact t 0,0; "+q)
	}
	fails(t, s, api.ErrForm, "select", "select ", "select;", "select * from t;", "select; select * from t", "select * from t; select * from t", "explain; select * from t; select * from t", "explain select * from t")
	fails(t, s, api.ErrName, "select 'a;b' as w, q from t")
	fails(t, s, api.ErrNone, "select v from t2", "explain; select v from t2")
	says(t, s, said{"select 'a;b' as w, ';' as x2 from t[0:0,:]", "dim x 0:0 / dim y 0:1 / attr w text / attr x2 text / 0 0: 'a;b', ';'"})
}
