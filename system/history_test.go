package system_test

import (
	"fmt"
	"strings"
	"testing"

	"tesseract/api"
	"tesseract/system"
)

// P12.3: lines about arrays and their versions

// errorNumber is what saying returns for an error.
func errorNumber(e api.Errno) string { return fmt.Sprint("error ", int(e)) }

func TestNew(t *testing.T) {
	s := system.New()
	if s == nil {
		t.Fatal("no system")
	}
	for _, line := range []string{"show t", "drop t", "heads t", "select * from t", "stats 0; select * from t"} {
		says(t, s, said{line, errorNumber(api.ErrNone)})
	}
	for _, line := range []string{"compact", "crash -", "recover", "load", "put a 1 t; 0: 1", "fail 0", "back 0", "join", "repair", "ask 0; select * from t"} {
		says(t, s, said{line, errorNumber(api.ErrState)})
	}
	says(t, system.New(), said{"cluster 1 1", "ok"}, said{"repair", "copies 0 lost 0"}, said{"disk 64", errorNumber(api.ErrArg)})
	does(t, s, "create t; x 0:0; v int")
	fails(t, system.New(), api.ErrNone, "show t") // systems have nothing in common
}

func TestCreate(t *testing.T) {
	s := begun(t)
	says(t, s, said{"create a; x -5:*; v rat, w text", "ok"}, said{"show a", "dim x -5:* / attr v rat / attr w text"}, said{"log a", "1 - 0 0"}, said{"heads a", "main 1"})
	for k := range api.MaxArrays - 2 {
		fails(t, s, api.ErrHave, "create t; x 1:0; v int", "create a; x 0:1; v int")
		fails(t, s, api.ErrRange, "create n; x 1:0; v int, v int", "create n; x 0:0, y 0:0, z -1073741825:0; v int")
		fails(t, s, api.ErrName, "create n; x 0:1; v int, v int", "create n; x 0:1, x 1:0; v int")
		does(t, s, fmt.Sprintf("create n%d; x 0:1; v int", k))
	}
	fails(t, s, api.ErrName, "create N; x 1:0; v int", "create averylongname; x 0:1; v int", "create 1; x 0:1; v int")
	fails(t, s, api.ErrHave, "create t; x 1:0; v int", "create n0; x 0:1; v int")
	fails(t, s, api.ErrMany, "create n; x 1:0; v int", "create select; x 0:1; v int")
	says(t, s, said{"drop a", "ok"})
	fails(t, s, api.ErrRange, "create n; x 1:0; v int")
	says(t, s, said{"create select; x 0:1; v int", "ok"}, said{"set select; 0: 1", "version 2"}, said{"show select", "dim x 0:1 / attr v int / 0: 1"}) // a keyword can be a name
}

// long returns a line that sets n cells of an array with one dimension.
func long(name string, n int) string {
	var b strings.Builder
	b.WriteString("set " + name)
	for k := range n {
		fmt.Fprintf(&b, ";%d:%d", k, k%7)
	}
	return b.String()
}

func TestLet(t *testing.T) {
	s := begun(t)
	says(t, s, said{"let a; select v + x as w from t where v > 2", "cells 2"}, said{"show a", "dim x 0:3 / dim y 0:1 / attr w int / 0 0: 5 / 1 0: 8"}, said{"log a", "1 - 0 2"}, said{"size a", "2"},
		said{"let b; select v from t where v > 99", "cells 0"}, said{"show b", "dim x 0:3 / dim y 0:1 / attr v int"}, said{"set t; 0 0: 9", "version 3"},
		said{"show a", "dim x 0:3 / dim y 0:1 / attr w int / 0 0: 5 / 1 0: 8"}, said{"set a; 0 0: 1", "version 2"}, said{"select * from t[0:0,:]", "dim x 0:0 / dim y 0:1 / attr v int / 0 0: 9"})
	does(t, s, "create m; p 0:99; v int", long("m", 70), "create n; q 0:99; w int", long("n", 70))
	for _, name := range []string{"N", "t", "c"} { // the query comes first
		fails(t, s, api.ErrForm, "let "+name+"; select")
		fails(t, s, api.ErrNone, "let "+name+"; select * from none")
		fails(t, s, api.ErrName, "let "+name+"; select w from t")
		fails(t, s, api.ErrMany, "let "+name+"; select * from m cross n")
	}
	fails(t, s, api.ErrName, "let N; select * from t", "let 'c'; select * from t")
	fails(t, s, api.ErrHave, "let t; select * from t", "let a; select * from t")
	for k := range api.MaxArrays - 5 {
		says(t, s, said{fmt.Sprintf("let n%d; select * from t", k), "cells 4"})
	}
	fails(t, s, api.ErrMany, "let c; select * from t")
	fails(t, s, api.ErrHave, "let t; select * from t")
	fails(t, s, api.ErrName, "let C; select * from t")
}

func TestDrop(t *testing.T) {
	s := begun(t)
	does(t, s, "create a; x 0:1; v int", "create u; x 0:1; v int", "layout t 2,2 0,0 tiled2 coords lz", "pin t 2", "pyramid t 2,2 1; count() as n", "branch t b 1")
	fails(t, s, api.ErrNone, "drop b", "drop T", "drop t'")
	says(t, s, said{"drop t", "ok"})
	fails(t, s, api.ErrNone, "drop t", "show t", "select * from t", "set t; 0 0: 1", "unpin t", "level t 0")
	says(t, s, said{"show a", "dim x 0:1 / attr v int"}, said{"show u", "dim x 0:1 / attr v int"})
	// another array of this name has nothing of the first one
	does(t, s, "create t; x 0:3, y 0:1; v int")
	fails(t, s, api.ErrState, "unpin t", "level t 0")
	says(t, s, said{"heads t", "main 1"}, said{"log t", "1 - 0 0"}, said{"set t; 0 0: 1; 2 0: 1; 3 1: 1", "version 2"}, said{"stats 0,0; select * from t", "boxes 1 chunks 1"})
}

// The layout of a new array, and that it can be changed.
func TestLayout(t *testing.T) {
	s := system.New()
	does(t, s, "create a; x -3:40, y 0:*; v int", "set a; -3 0: 1; 4 7: 2; 5 0: 3; 13 8: 4")
	says(t, s, said{"stats 0,0; select * from a", "boxes 1 chunks 3"}, said{"stats 8,0; select * from a", "boxes 6 chunks 3"}, said{"stats 9,0; select * from a[-3:4, 0:7]", "boxes 1 chunks 1"},
		said{"layout a 8,8 0,0 rowmajor dense plain", "chunks 3"}, said{"layout a 1,1 0,0 hilbert runs rle", "chunks 4"}, said{"stats 0,0; select * from a", "boxes 1 chunks 4"},
		said{"layout a 64,64 0,0 tiled8 coords lz", "chunks 1"}, said{"stats 0,0; select * from a", "boxes 1 chunks 1"}, said{"layout a 2,1 1,1 hilbert dense plain", "chunks 4"},
		said{"set a; 14 8: 5; 20 8: 5", "version 3"}, said{"stats 0,0; select * from a", "boxes 1 chunks 5"}, said{"pin a 2", "ok"}, said{"layout a 2,1 1,1 hilbert dense plain", "chunks 4"}, said{"pin a 1", "ok"},
		said{"layout a 2,1 1,1 hilbert dense plain", "chunks 0"})
	fails(t, s, api.ErrShape, "layout a 2 1,65 hilbert dense plain", "layout a 2,2 1 hilbert dense plain", "layout a - - hilbert dense plain", "layout a 2,2,2 1,1,1 hilbert dense plain")
	fails(t, s, api.ErrRange, "layout a 65,64 0,0 tiled0 dense plain", "layout a 64,0 0,0 hilbert dense plain", "layout a 2,2 3,0 hilbert dense plain", "layout a 2,2 -1,0 hilbert dense plain", "layout a 64,64 17,0 hilbert dense plain")
	fails(t, s, api.ErrMany, "layout a 64,64 1,0 tiled0 dense plain")
	fails(t, s, api.ErrArg, "layout a 64,64 0,0 tiled0 dense plain", "layout a 64,64 0,0 tiled65 dense plain")
	fails(t, s, api.ErrNone, "layout b 65 1 tiled0 dense plain")
	does(t, s, "unpin a")
	says(t, s, said{"stats 0,0; select * from a", "boxes 1 chunks 5"})
}

func TestSetAndCommit(t *testing.T) {
	s := begun(t)
	says(t, s, said{"set t; 0 0: 6", "version 3"}, said{"branch t b 2", "ok"}, said{"commit t b 2; 3 1:; 2 0: 1", "version 4"}, said{"set t; 0 0:", "version 5"}, said{"commit t main 5; 0 0: 1; 1 0: 2", "version 6"},
		said{"version t 4", "dim x 0:3 / dim y 0:1 / attr v int / 0 0: 5 / 1 0: 7 / 1 1: ?1 / 2 0: 1"}, said{"show t", "dim x 0:3 / dim y 0:1 / attr v int / 0 0: 1 / 1 0: 2 / 1 1: ?1 / 3 1: 2"},
		said{"log t", "1 - 0 0 / 2 1 1 4 / 3 2 2 1 / 4 2 2 2 / 5 3 3 1 / 6 5 5 2"}, said{"heads t", "b 4 / main 6"}, said{"size t", "10"})
	fails(t, s, api.ErrNone, "set u; 0: 'a'", "commit u b 1; 0: 'a'")
	fails(t, s, api.ErrName, "commit t none 6; 9 9: 1", "commit t MAIN 6; 0 0: 9")
	fails(t, s, api.ErrStale, "commit t main 5; 9 9: 1", "commit t b 6; 0 0: 9", "commit t main 99; 0 0: 9", "commit t main -1; 0 0: 9")
	fails(t, s, api.ErrShape, "set t; 0: 1", "set t; 0 0: 1, 2", "commit t b 4; 0 0 0: 1", "set t; 0 0: 'a', 2")
	fails(t, s, api.ErrRange, "set t; 4 0: 1", "set t; 0 0: 1; 0 -1: 2; 0: 1", "commit t b 4; 0 2:")
	fails(t, s, api.ErrType, "set t; 0 0: 'a'", "set t; 0 0: 1/2; 0 0: 1/2", "commit t b 4; 0 0: true")
	fails(t, s, api.ErrHave, "set t; 0 0: 9; 0 0: 9", "commit t b 4; 1 0:; 2 0: 2; 1 0: 3")
	fails(t, s, api.ErrState, "set t; 0 0: 1", "set t; 2 0:", "commit t b 4; 3 1:")
	for k := range 94 {
		says(t, s, said{fmt.Sprintf("set t; 0 0: %d", k+10), fmt.Sprint("version ", k+7)})
	}
	fails(t, s, api.ErrFull, "set t; 0 0: 9", "commit t b 4; 0 0: 9", "merge t main b")
	fails(t, s, api.ErrState, "set t; 0 0: 103")
	says(t, s, said{"reclaim t -", "reclaimed 97"}, said{"set t; 0 0: 9", "version 101"})
}

func TestBranches(t *testing.T) {
	s := begun(t)
	says(t, s, said{"branch t b 1", "ok"}, said{"branch t a 2", "ok"}, said{"heads t", "a 2 / b 1 / main 2"}, said{"cut t b", "ok"}, said{"heads t", "a 2 / main 2"}, said{"branch t b 2", "ok"}, said{"set t; 0 0: 1", "version 3"},
		said{"reclaim t -", "reclaimed 1"})
	fails(t, s, api.ErrNone, "branch u 1 9", "cut u main", "cut none none", "heads u", "log u", "size u")
	fails(t, s, api.ErrName, "branch t A 99", "branch t b' 1", "cut t none", "cut t MAIN")
	fails(t, s, api.ErrHave, "branch t a 99", "branch t main 2")
	fails(t, s, api.ErrNone, "branch t c 4", "branch t c 0", "branch t c -1")
	fails(t, s, api.ErrStale, "branch t c 1")
	fails(t, s, api.ErrState, "cut t main")
	for k := range 5 {
		does(t, s, fmt.Sprintf("branch t c%d 2", k))
	}
	fails(t, s, api.ErrFull, "branch t c 2")
	for _, name := range []string{"a", "b", "c0", "c1", "c2", "c3", "c4"} {
		says(t, s, said{"cut t " + name, "ok"})
	}
	fails(t, s, api.ErrState, "cut t main") // also as the only one
	says(t, s, said{"heads t", "main 3"})
}

func TestMerge(t *testing.T) {
	s := begun(t)
	does(t, s, "branch t b 2", "commit t b 2; 0 0: 8; 2 1: 1", "set t; 3 1:")
	says(t, s, said{"merge t main b", "version 5"}, said{"show t", "dim x 0:3 / dim y 0:1 / attr v int / 0 0: 8 / 1 0: 7 / 1 1: ?1 / 2 1: 1"}, said{"log t", "1 - 0 0 / 2 1 1 4 / 3 2 2 2 / 4 2 2 1 / 5 4+3 4 2"})
	fails(t, s, api.ErrState, "merge t main b", "merge t main main", "merge t b b")
	fails(t, s, api.ErrName, "merge t main none", "merge t none main", "merge t none none")
	fails(t, s, api.ErrNone, "merge u main none", "merge u main b")
	says(t, s, said{"merge t b main", "version 6"}, said{"heads t", "b 6 / main 5"}, said{"diff t 5 6", "none"}, said{"log t", "1 - 0 0 / 2 1 1 4 / 3 2 2 2 / 4 2 2 1 / 5 4+3 4 2 / 6 3+5 3 1"})
	does(t, s, "commit t b 6; 1 0: 1", "set t; 1 0: 2")
	fails(t, s, api.ErrConflict, "merge t main b", "merge t b main")
}

func TestReclaim(t *testing.T) {
	s := begun(t)
	does(t, s, "set t; 0 0: 1", "set t; 0 0: 2", "set t; 0 0: 3", "branch t b 2", "commit t b 2; 2 0: 1")
	fails(t, s, api.ErrNone, "reclaim t 7", "reclaim t 1,0,9", "reclaim u 7", "reclaim t -1")
	says(t, s, said{"reclaim t 3", "reclaimed 2"}, said{"log t", "2 1 0 4 / 3 2 2 1 / 5 4 3 1 / 6 2 2 1"})
	fails(t, s, api.ErrStale, "reclaim t 1", "reclaim t 2,4,9", "version t 4", "pin t 1", "diff t 1 9", "diff t 2 4")
	says(t, s, said{"pin t 3", "ok"}, said{"reclaim t -", "reclaimed 0"}, said{"reclaim t 3", "reclaimed 0"}, said{"show t", "dim x 0:3 / dim y 0:1 / attr v int / 0 0: 1 / 1 0: 7 / 1 1: ?1 / 3 1: 2"})
	fails(t, s, api.ErrNone, "reclaim t 3,99")
	says(t, s, said{"unpin t", "ok"}, said{"reclaim t -", "reclaimed 1"}, said{"log t", "2 1 0 4 / 5 4 2 1 / 6 2 2 1"}, said{"cut t b", "ok"}, said{"reclaim t -", "reclaimed 2"}, said{"log t", "5 4 0 4"}, said{"size t", "4"}, said{"reclaim t 5,5", "reclaimed 0"})
}

func TestVersionsAndDiffs(t *testing.T) {
	s := begun(t)
	does(t, s, "set t; 0 0: 1; 2 0: 2; 3 1:")
	says(t, s, said{"version t 1", "dim x 0:3 / dim y 0:1 / attr v int"}, said{"version t 2", shownTable}, said{"diff t 2 3", "0 0: 1 / 2 0: 2 / 3 1:"}, said{"diff t 3 2", "0 0: 5 / 2 0: / 3 1: 2"},
		said{"diff t 1 1", "none"}, said{"diff t 3 1", "0 0: / 1 0: / 1 1: / 2 0:"}, said{"size t", "7"})
	fails(t, s, api.ErrNone, "version t 4", "version t 0", "version u 1", "diff t 1 4", "diff t 4 1", "diff u 1 1", "show u")
}

// P12.8

func TestPins(t *testing.T) {
	s := begun(t)
	fails(t, s, api.ErrNone, "pin t 3", "pin t 0", "pin t -1", "pin u 1", "unpin u")
	fails(t, s, api.ErrState, "unpin t")
	says(t, s, said{"pin t 1", "ok"}, said{"show t", "dim x 0:3 / dim y 0:1 / attr v int"}, said{"select count() as n from t group by y 0:1", "dim y 0:1 / attr n int"}, said{"pin t 2", "ok"}, said{"show t", shownTable},
		said{"set t; 0 0: 6", "version 3"}, said{"show t", shownTable}, said{"select v from t", shownTable}, said{"version t 3", strings.Replace(shownTable, "5", "6", 1)}, said{"let a; select * from t", "cells 4"}, said{"show a", shownTable})
	does(t, s, "branch t b 2", "commit t b 2; 3 1:", "merge t main b", "cut t b", "set t; 3 1: 5", "reclaim t -")
	says(t, s, said{"version t 2", shownTable}, said{"show t", shownTable}, said{"explain; select * from t", "t / t / none"}, said{"stats 1,1; select * from t", "boxes 8 chunks 8"}, said{"lineage 0; select count() as n from t group by y 0:1", "t 0, 0 / t 1, 0"},
		said{"impact t 3,1; select * from t", "3, 1"}, said{"layout t 1,1 0,0 rowmajor dense plain", "chunks 4"})
	fails(t, s, api.ErrStale, "pin t 3", "pin t 1")
	says(t, s, said{"show t", shownTable}, said{"unpin t", "ok"}, said{"show t", strings.Replace(strings.Replace(shownTable, "5", "6", 1), ": 2", ": 5", 1)})
	fails(t, s, api.ErrState, "unpin t")
	says(t, s, said{"reclaim t -", "reclaimed 1"})
	fails(t, s, api.ErrStale, "pin t 2")
}

func TestPyramids(t *testing.T) {
	s := begun(t)
	fails(t, s, api.ErrState, "level t 0", "level t 99", "level t -1")
	fails(t, s, api.ErrNone, "level u 0", "pyramid u - 0; sum(v) as V")
	fails(t, s, api.ErrRange, "pyramid t 2 0; sum(w) as V", "pyramid t 2,2 7; count() as n", "pyramid t 2,0 1; sum(w) as s", "pyramid t 2,40000 2; count() as n", "pyramid t 2,2 -1; count() as n")
	fails(t, s, api.ErrShape, "pyramid t 2 1; sum(w) as s", "pyramid t - 1; count() as n", "pyramid t 2,2,2 1; count() as n")
	fails(t, s, api.ErrName, "pyramid t 2,2 1; sum(w) as s", "pyramid t 2,2 1; sum(v) as x", "pyramid t 2,2 1; sum() as s")
	says(t, s, said{"pyramid t 2,1 2; sum(v) as s, count() as n", "ok"}, said{"level t 0", shownTable}, said{"level t 1", "dim x 0:1 / dim y 0:1 / attr s int / attr n int / 0 0: 12, 2 / 0 1: ?4, 1 / 1 1: 2, 1"},
		said{"level t 2", "dim x 0:0 / dim y 0:1 / attr s int / attr n int / 0 0: 12, 2 / 0 1: 2, 2"})
	fails(t, s, api.ErrRange, "level t 3", "level t -1", "level t 1099511627776")
	// the first one remains, and follows the head of main, not what the array shows
	fails(t, s, api.ErrRange, "pyramid t 2,0 1; count() as n")
	says(t, s, said{"pin t 2", "ok"}, said{"set t; 1 1: 3", "version 3"}, said{"level t 1", "dim x 0:1 / dim y 0:1 / attr s int / attr n int / 0 0: 12, 2 / 0 1: 3, 1 / 1 1: 2, 1"},
		said{"branch t b 3", "ok"}, said{"commit t b 3; 0 0:; 3 0: 1", "version 4"}, said{"level t 2", "dim x 0:0 / dim y 0:1 / attr s int / attr n int / 0 0: 12, 2 / 0 1: 5, 2"},
		said{"merge t b main", errorNumber(api.ErrState)}, said{"set t; 0 1: 1", "version 5"}, said{"merge t b main", "version 6"}, said{"level t 2", "dim x 0:0 / dim y 0:1 / attr s int / attr n int / 0 0: 12, 2 / 0 1: 6, 3"},
		said{"commit t main 5; 0 1:", "version 7"}, said{"level t 2", "dim x 0:0 / dim y 0:1 / attr s int / attr n int / 0 0: 12, 2 / 0 1: 5, 2"},
		said{"merge t main b", "version 8"}, said{"level t 2", "dim x 0:0 / dim y 0:1 / attr s int / attr n int / 0 0: 8, 2 / 0 1: 5, 2"}, said{"level t 0", "dim x 0:3 / dim y 0:1 / attr v int / 1 0: 7 / 1 1: 3 / 3 0: 1 / 3 1: 2"},
		said{"reclaim t -", "reclaimed 5"}, said{"level t 0", "dim x 0:3 / dim y 0:1 / attr v int / 1 0: 7 / 1 1: 3 / 3 0: 1 / 3 1: 2"},
		said{"pyramid t 4,2 1; max(v) as m", "ok"}, said{"level t 1", "dim x 0:0 / dim y 0:0 / attr m int / 0 0: 7"})
	fails(t, s, api.ErrRange, "level t 2")
}
