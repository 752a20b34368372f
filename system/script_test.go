package system_test

import (
	"fmt"
	"slices"
	"strings"
	"testing"

	"tesseract/agg"
	"tesseract/api"
	"tesseract/space"
	"tesseract/system"
	"tesseract/version"
)

// P12.4

func TestRun(t *testing.T) {
	for _, x := range []struct{ script, want string }{
		{"", ""},
		{"\n", "error 7\n"},
		{"\n\n", "error 7\nerror 7\n"},
		{"show t", "error 4\n"},
		{"show t\n", "error 4\n"},
		{"\nshow t", "error 7\nerror 4\n"},
		{"create t; x 0:3; v int\nset t; 0: 1\nset t; 0: 1\nshow t\nshow t ;\n", "ok\nversion 2\nerror 6\ndim x 0:3\nattr v int\n0: 1\nerror 7\n"},
		{"create t; x 0:3; v int\r\nshow t\r", "error 7\nerror 7\n"},
		{" \n;\n \n", "error 7\nerror 7\nerror 7\n"},
		{strings.Repeat("y", api.MaxLine) + "\n" + strings.Repeat("x", api.MaxLine+1), "error 7\nerror 8\n"},
		{strings.Repeat("\n", 1<<16), strings.Repeat("error 7\n", 1<<16)},
		{strings.Repeat("x", 1<<16), "error 8\n"},
		{"let a; select * from b\ndisk 64\ncompact\ncluster 0 0", "error 4\nerror 2\nerror 6\nerror 2\n"},
	} {
		if got, e := system.New().Run(x.script); e != api.OK || got != x.want {
			t.Errorf("%.99q: %.99q and the error %d", x.script, got, e)
		}
	}
	s := begun(t)
	for _, n := range []int{1<<16 + 1, 1 << 17} {
		for _, line := range []string{"set t; 0 0: 9\n", "\n"} {
			if got, e := s.Run(strings.Repeat(line, n)[:n]); e != api.ErrLong || got != "" {
				t.Errorf("%q and the error %d", got, e)
			}
		}
	}
	says(t, s, said{"heads t", "main 2"}) // nothing was done
	if got, e := s.Run("set t; 0 0: 9"); e != api.OK || got != "version 3\n" {
		t.Error(got, e)
	}
	says(t, s, said{"heads t", "main 3"})
}

// line returns a line that is likely to be without an error for arrays with the names a, b and c, with two dimensions each.
func (d *dice) line() string {
	name := pick(d, "a", "b", "c", "a", "b", "none")
	branch := pick(d, "main", "main", "side", "other", "none")
	n := d.from(0, 9)
	q := d.query()
	return pick(d,
		fmt.Sprintf("create %s; x 0:3, y -1:*; v int", name), "let "+pick(d, name, "l")+"; "+q, "drop "+pick(d, "l", "l", "l", name),
		fmt.Sprintf("layout %s %d,%d %d,0 %s", name, d.from(0, 4), d.from(1, 3), d.from(0, 1), pick(d, "hilbert runs lz", "tiled2 dense rle", "rowmajor coords plain", "tiled0 dense rle")),
		"set "+name+d.changes(), "set "+name+d.changes(), "set "+name+d.changes(), "set "+name+d.changes(),
		fmt.Sprintf("commit %s %s %d%s", name, branch, n, d.changes()), fmt.Sprintf("commit %s %s %d%s", name, branch, n, d.changes()), fmt.Sprintf("branch %s %s %d", name, branch, n), fmt.Sprintf("branch %s %s %d", name, branch, n), "cut "+name+" "+branch,
		fmt.Sprintf("branch %s side %d", name, d.from(1, 3)), fmt.Sprintf("commit %s side %d%s", name, d.from(2, 5), d.changes()), fmt.Sprintf("commit %s side %d%s", name, d.from(2, 5), d.changes()),
		"merge "+name+" "+branch+" "+pick(d, "main", "side", "other"), "merge "+name+" main side", "merge "+name+" main "+pick(d, "side", "other"), fmt.Sprintf("reclaim %s %s", name, pick(d, "-", "-", fmt.Sprint(n), "1,2")),
		fmt.Sprintf("pin %s %d", name, n), "unpin "+name, fmt.Sprintf("pyramid %s %d,2 2; %s", name, d.from(0, 3), pick(d, "count() as n", "sum(v) as s", "max(v) as m", "min(w) as m")), fmt.Sprint("level ", name, " ", d.from(0, 3)),
		"heads "+name, "log "+name, fmt.Sprintf("diff %s %d %d", name, d.from(1, 5), n), "size "+name, "show "+name, "show "+name, fmt.Sprint("version ", name, " ", n), q, q, q, "explain; "+q,
		"stats 2,3; "+q, "needs 0:1,0:*; "+q, "lineage 0,0; "+q, fmt.Sprint("impact ", name, " 1,", d.from(-1, 2), "; ", q),
		fmt.Sprint("disk ", pick(d, 63, 90, 300)), fmt.Sprint("put ", pick(d, "t1", "t2", "t3", "t4", "T"), " ", n, " ", name, d.changes()), "compact", "crash 7", "recover", "recover", "load",
		"cluster 2 1", "fail 1", "back 1", "join", "repair", "ask 1,1; "+q, "mul "+name+" b", "det "+name, "solve b "+name, "", "? "+name, "show", "set "+name, "version "+name+" x")
}

// query returns a query of the arrays of line.
func (d *dice) query() string {
	name := pick(d, "a", "b", "c")
	return pick(d, "select * from "+name, "select v + x as w from "+name+" where v > 1", "select sum(v) as s from "+name+" group by y -1:9, x 0:1", "select * from "+name+"[0:1, :] merge "+pick(d, "a", "b"), "select w from "+name, "select * from "+name+" order (y, x)")
}

// changes returns the parts of a line with some changes.
func (d *dice) changes() string {
	var out string
	for range d.from(1, 3) {
		out += fmt.Sprintf("; %d %d:", d.from(0, 3), d.from(-1, 2))
		out += pick(d, " "+fmt.Sprint(d.from(-3, 3)), fmt.Sprint(d.from(0, 9)), " ?3", "")
	}
	return out
}

// answersOf returns the answers of a system to lines.
func answersOf(t *testing.T, l []string) []string {
	t.Helper()
	s := system.New()
	var out []string
	for _, line := range l {
		out = append(out, saying(t, s, line))
	}
	return out
}

// P12.7: a script is its lines, also in several parts.
func TestRunIsDo(t *testing.T) {
	d := dice(141)
	for range 150 {
		script := append([]string{"create a; x 0:3, y -1:*; v int", "create b; x 0:3, y -1:*; v int", "create c; x 0:3, y -1:*; v int"}, many(120, d.line)...)
		s := system.New()
		k := d.from(0, len(script))
		first, e := s.Run(strings.Join(script[:k], "\n") + pick(&d, "\n", "\n")[:min(k, 1)])
		second, f := s.Run(strings.Join(append(script[k:], ""), "\n"))
		got := strings.TrimSuffix(first+second, "\n")
		if want := strings.Join(answersOf(t, script), "\n"); e != api.OK || f != api.OK || got != strings.ReplaceAll(want, " / ", "\n") {
			t.Fatalf("%s: %s, not %s", script, got, want)
		}
	}
}

// P12.7: lines with an error make no difference.
func TestErrorsMakeNoDifference(t *testing.T) {
	d := dice(142)
	answered, failed := map[string]int{}, map[string]int{}
	for range 250 {
		script := append([]string{"create a; x 0:3, y -1:*; v int", "create b; x 0:3, y -1:*; v int", "set a; 0 0: 1; 1 1: 2", "create c; x 0:3, y -1:*; v int"}, many(150, d.line)...)
		answers := answersOf(t, script)
		var left, wanted []string
		for k, line := range script {
			word, _, _ := strings.Cut(line, " ")
			isError := strings.HasPrefix(answers[k], "error")
			if !isError || word == "load" || word == "recover" || word == "crash" {
				left, wanted = append(left, line), append(wanted, answers[k])
			}
			if isError {
				failed[word]++
			} else {
				answered[word]++
			}
		}
		got := answersOf(t, left)
		for k := range got {
			if got[k] != wanted[k] {
				t.Fatalf("%s: %s: %s, not %s", strings.Join(left[:k+1], "\n"), left[k], got[k], wanted[k])
			}
		}
	}
	for _, word := range []string{"create", "let", "drop", "layout", "set", "commit", "branch", "cut", "merge", "reclaim", "diff", "size", "show", "version", "pin", "unpin", "pyramid", "level", "select", "explain;", "stats", "lineage", "impact", "disk", "put", "compact", "crash", "fail", "back", "ask"} {
		if answered[word] < 15 || failed[word] < 15 {
			t.Errorf("%s: %d answers and %d errors", word, answered[word], failed[word])
		}
	}
	if answered["load"] < 15 || answered["recover"] < 15 || answered["join"] < 15 || answered["repair"] < 15 {
		t.Error(answered)
	}
}

// P12.7: layouts, pins of other arrays, the disk and the cluster make no difference to what arrays show.
func TestWhatMakesNoDifference(t *testing.T) {
	d := dice(143)
	compared := 0
	for range 250 {
		script := []string{"create a; x 0:3, y -1:*; v int", "create b; x 0:3, y -1:*; v int", "set a; 0 0: 1; 1 1: 2", "create c; x 0:3, y -1:*; v int", "create z; x 0:3; v int", "set z; 0: 1"}
		for range 120 {
			line := pick(&d, d.line(), d.line(), d.line(), d.line(), fmt.Sprint("pin z ", d.from(0, 3)), "unpin z", fmt.Sprint("set z; 1: ", d.from(1, 3)))
			if line != "load" { // the only line for which the disk matters
				script = append(script, line)
			}
		}
		answers := answersOf(t, script)
		var left, wanted []string
		for k, line := range script {
			word, rest, _ := strings.Cut(line, " ")
			if slices.Contains([]string{"layout", "disk", "put", "compact", "crash", "recover", "cluster", "fail", "back", "join", "repair", "ask"}, word) {
				continue
			}
			if (word == "pin" || word == "unpin") && strings.HasPrefix(rest, "z") {
				continue
			}
			left, wanted = append(left, line), append(wanted, answers[k])
		}
		got := answersOf(t, left)
		for k, line := range left {
			if word, _, _ := strings.Cut(line, " "); slices.Contains([]string{"select", "show", "version", "explain;"}, word) {
				compared++
				if got[k] != wanted[k] {
					t.Fatalf("%s: %s: %s, not %s", strings.Join(left[:k+1], "\n"), line, got[k], wanted[k])
				}
			}
		}
	}
	if compared < 1000 {
		t.Error(compared)
	}
}

// P12.8: a pinned array shows the version of its pin, until the pin is changed; without a pin it shows the head of main.
func TestPinnedArrays(t *testing.T) {
	d := dice(144)
	checked := 0
	for range 200 {
		s := system.New()
		does(t, s, "create a; x 0:3, y -1:*; v int", "create b; x 0:3, y -1:*; v int", "create c; x 0:3, y -1:*; v int", "set a; 0 0: 1; 1 1: 2")
		pinned := map[string]string{} // what arrays show, by their names
		for range 120 {
			line := d.line()
			words := strings.Fields(line + " - -")
			name := strings.Trim(words[1], ";")
			if answer := saying(t, s, line); answer == "ok" {
				switch words[0] {
				case "pin":
					pinned[name] = saying(t, s, "version "+name+" "+words[2])
				case "unpin", "drop":
					delete(pinned, name)
				}
			}
			for _, name := range []string{"a", "b", "c", "l"} {
				want, is := pinned[name]
				if !is {
					want = headOf(t, s, name)
				} else {
					checked++
				}
				if got := saying(t, s, "show "+name); got != want {
					t.Fatalf("%s: %s shows %s, not %s", line, name, got, want)
				}
			}
		}
	}
	if checked < 1000 {
		t.Error(checked)
	}
}

// headOf returns the array of the head of main, or the error of an array that is not there.
func headOf(t *testing.T, s *system.System, name string) string {
	t.Helper()
	answer := saying(t, s, "heads "+name)
	for _, line := range strings.Split(answer, " / ") {
		if v, is := strings.CutPrefix(line, "main "); is {
			return saying(t, s, "version "+name+" "+v)
		}
	}
	return answer
}

// history is what an array of a system must have, by the tree of chapter 8.
type history struct {
	tree    *version.Tree
	pin     int
	factors []int // of its pyramid
}

// does changes the history as a line says, whose words, numbers and changes are given apart, and returns the answer.
func (h *history) does(word, branch, other string, n, m int, l []api.Change) string {
	heads := map[string]int{}
	for _, x := range h.tree.Heads() {
		heads[x.Name] = x.Version
	}
	var v int
	var e api.Errno
	answer := "ok"
	switch word {
	case "set":
		v, e = h.tree.Commit("main", heads["main"], l)
		answer = fmt.Sprint("version ", v)
	case "commit":
		v, e = h.tree.Commit(branch, n, l)
		answer = fmt.Sprint("version ", v)
	case "branch":
		e = h.tree.Branch(branch, n)
	case "cut":
		if e = api.ErrState; branch != "main" {
			e = h.tree.Drop(branch)
		}
	case "merge":
		v, _, e = h.tree.Merge(branch, other)
		answer = fmt.Sprint("version ", v)
	case "reclaim":
		keep := list(n, m)
		if h.pin > 0 {
			keep = append(keep, h.pin)
		}
		v, e = h.tree.Reclaim(keep)
		answer = fmt.Sprint("reclaimed ", v)
	case "pin":
		if _, e = h.tree.Get(n); e == api.OK {
			h.pin = n
		}
	case "unpin":
		if e = api.ErrState; h.pin > 0 {
			e, h.pin = api.OK, 0
		}
	case "pyramid":
		h.factors = list(n, m)
	}
	return either(e, answer)
}

// P12.3: the lines about versions are the functions of chapter 8, and pyramids follow main.
func TestHistoriesByModel(t *testing.T) {
	d := dice(145)
	met := map[string]int{}
	for range 150 {
		s := system.New()
		does(t, s, "create t; x 0:3, y -2:1; v int")
		tree, _ := version.New(must(space.Make([]api.Dim{dim("x", 0, 3), dim("y", -2, 1)}, []api.Attr{{Name: "v", Type: api.TInt}}, nil)))
		h := &history{tree: tree}
		for range 60 {
			word := pick(&d, "set", "set", "commit", "commit", "commit", "branch", "branch", "cut", "merge", "merge", "reclaim", "pin", "unpin", "pyramid")
			branch, other := pick(&d, "main", "b", "c"), pick(&d, "main", "b", "c")
			last := 0
			for _, x := range h.tree.Heads() {
				last = max(last, x.Version)
			}
			n, m := d.from(max(last-4, 0), last+1), d.from(max(last-2, 1), last)
			var l []api.Change
			line := word + " t"
			switch word {
			case "set":
			case "commit", "branch":
				line += fmt.Sprint(" ", branch, " ", n)
			case "cut":
				line += " " + branch
			case "merge":
				line += " " + branch + " " + other
			case "reclaim":
				line += " " + commas(list(n, m))
			case "pin":
				line += fmt.Sprint(" ", n)
			case "pyramid":
				n, m = d.from(1, 3), d.from(1, 3)
				line += " " + commas(list(n, m)) + " 2; sum(v) as s, count() as n"
			}
			if word == "set" || word == "commit" {
				for range d.from(1, 3) {
					c := api.Change{At: list(d.from(0, 3), d.from(-2, 1))}
					text := fmt.Sprintf("; %d %d:", c.At[0], c.At[1])
					if k := d.from(0, 3); k > 0 {
						c.Vals = []api.Val{num(int64(k))}
						text += fmt.Sprint(" ", k)
					}
					l, line = append(l, c), line+text
				}
			}
			want := h.does(word, branch, other, n, m, l)
			says(t, s, said{line, want})
			if !strings.HasPrefix(want, "error") {
				met[word]++
			}
			h.compares(t, s)
		}
	}
	for _, word := range []string{"set", "commit", "branch", "cut", "merge", "reclaim", "pin", "unpin", "pyramid"} {
		if met[word] < 50 {
			t.Error(word, met[word])
		}
	}
}

// compares checks what lines show of an array.
func (h *history) compares(t *testing.T, s *system.System) {
	t.Helper()
	var heads, versions []string
	main := 0
	for _, x := range h.tree.Heads() {
		heads = append(heads, fmt.Sprint(x.Name, " ", x.Version))
		if x.Name == "main" {
			main = x.Version
		}
	}
	for _, v := range h.tree.Versions() {
		i, _ := h.tree.Info(v)
		parents := "-"
		switch len(i.Parents) {
		case 1:
			parents = fmt.Sprint(i.Parents[0])
		case 2:
			parents = fmt.Sprint(i.Parents[0], "+", i.Parents[1])
		}
		versions = append(versions, fmt.Sprint(v, " ", parents, " ", i.Support, " ", i.Changes))
	}
	now := main
	if h.pin > 0 {
		now = h.pin
	}
	newest := must(h.tree.Get(main))
	says(t, s, said{"heads t", strings.Join(heads, " / ")}, said{"log t", strings.Join(versions, " / ")}, said{"size t", fmt.Sprint(h.tree.Size())}, said{"show t", shown(must(h.tree.Get(now)))}, said{fmt.Sprint("version t ", main), shown(newest)})
	if h.factors == nil {
		says(t, s, said{"level t 0", errorNumber(api.ErrState)})
		return
	}
	f, g := h.factors[0], h.factors[1]
	for k, factors := range [][]int{{1, 1}, {f, g}, {f * f, g * g}} {
		want := newest
		if k > 0 {
			want = must(agg.Regrid(newest, factors, []api.Agg{{Fn: api.Sum, Attr: "v", As: "s"}, {Fn: api.Count, As: "n"}}))
		}
		says(t, s, said{fmt.Sprint("level t ", k), shown(want)})
	}
}
