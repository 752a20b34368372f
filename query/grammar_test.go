package query_test

import (
	"regexp"
	"slices"
	"strings"
	"testing"

	"tesseract/api"
	"tesseract/query"
)

// This file finds the faults of queries by the chapter's grammar itself, with Earley's algorithm.

// grammar is the one of the chapter; but an item with a function is divided into two, as only count may have no name.
const grammar = `
query     = "select" items "from" source [ "where" scalar ] [ shape ] [ "order" "(" names ")" ]
items     = "*" | item { "," item }
item      = name | scalar "as" name | function "(" name ")" "as" name | "count" "(" ")" "as" name
function  = "count" | "sum" | "avg" | "min" | "max" | "var" | "distinct"
source    = term { ( "join" | "cross" | "merge" ) term | "concat" term "on" name }
term      = ( name | "(" query ")" ) [ "[" range { "," range } "]" ]
range     = [ integer ] ":" [ integer ]
shape     = "group" "by" dim { "," dim } | "regrid" "by" number { "," number } | "window" number number { "," number number } | "vary" name number number | "along" name | "rank" name [ "in" names ] "as" name
dim       = name integer ":" ( integer | "*" )
names     = name { "," name }
integer   = [ "-" ] number
scalar    = either { "else" either }
either    = both { "or" both }
both      = negation { "and" negation }
negation  = "not" negation | comparison
comparison = sum [ ( "=" | "!=" | "<" | "<=" | ">" | ">=" ) sum ]
sum       = product { ( "+" | "-" ) product }
product   = factor { ( "*" | "/" ) factor }
factor    = "-" factor | primary
primary   = number | text | "true" | "false" | name | "(" scalar ")" | ( "floor" | "missing" | "reason" ) "(" scalar ")" | "if" "(" scalar "," scalar "," scalar ")"
`

// productions are the right sides of the symbols that are not terminals. Terminals are words with quotes, and name, number and text.
type productions map[string][][]string

// read reads alternatives up to a closing bracket, and returns the rest. What is in brackets becomes a symbol of its own.
func (p productions) read(symbol string, tokens []string) []string {
	var current []string
	for len(tokens) > 0 {
		t := tokens[0]
		tokens = tokens[1:]
		switch t {
		case "|":
			p[symbol] = append(p[symbol], current)
			current = nil
		case ")", "]", "}":
			p[symbol] = append(p[symbol], current)
			return tokens
		case "(", "[", "{":
			inner := symbol + t + string(rune('a'+len(p)))
			p[inner] = nil
			tokens = p.read(inner, tokens)
			if t == "{" {
				for k, l := range p[inner] {
					p[inner][k] = append(l, inner)
				}
			}
			if t != "(" {
				p[inner] = append(p[inner], nil)
			}
			current = append(current, inner)
		default:
			current = append(current, t)
		}
	}
	p[symbol] = append(p[symbol], current)
	return nil
}

// rules returns the productions of the grammar.
func rules() productions {
	p := productions{}
	for line := range strings.Lines(strings.TrimSpace(grammar)) {
		l := strings.Fields(line)
		p.read(l[0], l[2:])
	}
	return p
}

var productionsOfGrammar = rules()

// state is an item of Earley's algorithm: an alternative of a symbol, how much of it was met, and where it began.
type state struct {
	symbol    string
	which     int
	met, from int
}

// earley is the columns for the tokens so far.
type earley struct {
	p       productions
	columns []map[state]bool
}

func newEarley(p productions) *earley {
	x := &earley{p: p}
	x.columns = append(x.columns, map[state]bool{})
	for k := range p["query"] {
		x.columns[0][state{"query", k, 0, 0}] = true
	}
	x.close()
	return x
}

// next returns the symbol behind what was met, and an empty string at the end.
func (x *earley) next(s state) string {
	l := x.p[s.symbol][s.which]
	if s.met == len(l) {
		return ""
	}
	return l[s.met]
}

// close adds to the last column what follows from it, until there is nothing more.
func (x *earley) close() {
	n := len(x.columns) - 1
	for grown := true; grown; {
		grown = false
		add := func(s state) {
			if !x.columns[n][s] {
				x.columns[n][s] = true
				grown = true
			}
		}
		var l []state
		for s := range x.columns[n] {
			l = append(l, s)
		}
		for _, s := range l {
			symbol := x.next(s)
			if symbol == "" {
				for o := range x.columns[s.from] {
					if x.next(o) == s.symbol {
						add(state{o.symbol, o.which, o.met + 1, o.from})
					}
				}
				continue
			}
			for k := range x.p[symbol] {
				add(state{symbol, k, 0, n})
			}
		}
	}
}

// take adds a token, and reports whether it can be the next one.
func (x *earley) take(terminal string) bool {
	column := map[state]bool{}
	for s := range x.columns[len(x.columns)-1] {
		if x.next(s) == terminal {
			column[state{s.symbol, s.which, s.met + 1, s.from}] = true
		}
	}
	if len(column) == 0 {
		return false
	}
	x.columns = append(x.columns, column)
	x.close()
	return true
}

// complete reports whether the tokens so far are a query.
func (x *earley) complete() bool {
	for s := range x.columns[len(x.columns)-1] {
		if s.symbol == "query" && s.from == 0 && x.next(s) == "" {
			return true
		}
	}
	return false
}

// keywords are the words in quotes of the grammar.
var keywords = quoted()

func quoted() []string {
	var out []string
	for _, l := range regexp.MustCompile(`"([a-z]+)"`).FindAllStringSubmatch(grammar, -1) {
		out = append(out, l[1])
	}
	slices.Sort(out)
	return slices.Compact(out)
}

// The tokens, as regular expressions of which the longest matches count.
var (
	wordToken   = longest(`[a-z][a-z0-9_]*`)
	numberToken = longest(`[0-9]+`)
	textToken   = longest(`'([ -&(-~]|'')*'`)
	symbolToken = longest(`[()\[\],:*+/=<>-]|!=|<=|>=`)
	afterNumber = regexp.MustCompile(`^[a-z_]`)
)

func longest(s string) *regexp.Regexp {
	r := regexp.MustCompile("^(" + s + ")")
	r.Longest()
	return r
}

// specToken returns the terminal of the token at the beginning of a string, and its size; 0 if there is none.
func specToken(s string) (string, int) {
	if w := wordToken.FindString(s); w != "" {
		if len(w) > api.MaxName {
			return "", 0
		}
		if slices.Contains(keywords, w) {
			return `"` + w + `"`, len(w)
		}
		return "name", len(w)
	}
	if n := numberToken.FindString(s); n != "" {
		if len(n) > 1 && n[0] == '0' || len(n) > 13 || len(n) == 13 && n > "1099511627776" || afterNumber.MatchString(s[len(n):]) {
			return "", 0
		}
		return "number", len(n)
	}
	if q := textToken.FindString(s); q != "" {
		if len(strings.ReplaceAll(q[1:len(q)-1], "''", "'")) > api.MaxText {
			return "", 0
		}
		return "text", len(q)
	}
	if y := symbolToken.FindString(s); y != "" {
		return `"` + y + `"`, len(y)
	}
	return "", 0
}

// specFault returns the offset of the fault of a query, and false if it is well-formed.
func specFault(s string) (int, bool) {
	x := newEarley(productionsOfGrammar)
	for at := 0; at < len(s); {
		if strings.IndexByte(" \t\n\r", s[at]) >= 0 {
			at++
			continue
		}
		terminal, size := specToken(s[at:])
		if size == 0 || !x.take(terminal) {
			return at, true
		}
		at += size
	}
	return len(s), !x.complete()
}

// checkFault compares the fault of a query with the one that Bind finds, and reports whether there is one.
func checkFault(t *testing.T, db api.DB, s string) bool {
	t.Helper()
	want, is := specFault(s)
	e, at, f := query.Bind(db, s)
	if is && (f != api.ErrForm || at != want || !isZeroExpr(e)) {
		t.Fatalf("%q: error %d at %d, not a fault at %d", s, f, at, want)
	}
	if !is && f == api.ErrForm { // then it is the form of an item, whose first token is meant
		if prefix := s[:at]; !strings.HasSuffix(strings.TrimRight(prefix, " \t\r\n"), "select") && !strings.HasSuffix(strings.TrimRight(prefix, " \t\r\n"), ",") {
			t.Fatalf("%q: error %d at %d, but it is well-formed", s, f, at)
		}
	}
	return is
}

// P6.7, the faults

func TestFaults(t *testing.T) {
	db := base()
	for s, want := range map[string]int{
		"":                                 0,
		"   ":                              3,
		"select":                           6,
		"select  \n":                       9,
		"Select * from t":                  0,
		"from t":                           0,
		"select v as from t":               12,
		"select v from t where":            21,
		"select v from t where ":           22,
		"select 01 as a from t":            7,
		"select 00 as a from t":            7,
		"select 0 0 as a from t":           9,
		"select 1a as a from t":            7,
		"select 1_ as a from t":            7,
		"select 1A as a from t":            8,
		"select aA as a from t":            8,
		"select _a as a from t":            7,
		"select 1099511627777 as a from t": 7,
		"select 99999999999999999999 as a from t":              7,
		"select 'a from t":                                     7,
		"select 'a\tb' as a from t":                            7,
		"select 'a\x7f' as a from t":                           7,
		"select 'aaaaaaaaaaaaaaaaa' as a from t":               7,
		"select 'aaaaaaaaaaaaaaa''''' as a from t":             7,
		"select 'a''' 'b' as a from t":                         13,
		"select 'a''":                                          10,
		"select 'a''\x80' as a from t":                         10,
		"select 'a''\tb' as a from t":                          10,
		"select 'a'' as a from t":                              10,
		"select 'a''aaaaaaaaaaaaaaaa' as a from t":             7,
		"select \xc3\xa9 from t":                               7,
		"select\x00 v from t":                                  6,
		"select v from t ; ":                                   16,
		"select v ! from t":                                    9,
		"select v < = 1 as a from t":                           11,
		"select (v) from t":                                    11,
		"select ((v)) as a, v from":                            25,
		"select v + from t":                                    11,
		"select v + 1 from t":                                  13,
		"select v v from t":                                    9,
		"select v, from t":                                     10,
		"select *, v from t":                                   8,
		"select * as a from t":                                 9,
		"select count from t":                                  13,
		"select sum() as s from t along x":                     11,
		"select sum(v + 1) as s from t along x":                13,
		"select sum(1) as s from t along x":                    11,
		"select sum(v) from t along x":                         14,
		"select sum(v) + 1 as a from t along x":                14,
		"select 1 + sum(v) as a from t along x":                11,
		"select a = b = c as d from t":                         13,
		"select a < b >= c as d from t":                        13,
		"select 1 + not a as d from t":                         11,
		"select - not a as d from t":                           9,
		"select not as d from t":                               11,
		"select floor v as d from t":                           13,
		"select floor(v, v) as d from t":                       14,
		"select if(a, b) as d from t":                          14,
		"select if(a, b, c, d) as d from t":                    17,
		"select neg(v) as d from t":                            10,
		"select v from abcdefghijklm":                          14,
		"select v from t t":                                    16,
		"select v from t, u":                                   15,
		"select v from t concat t":                             24,
		"select v from t concat t join t on x":                 25,
		"select v from t join t on x":                          23,
		"select v from select v from t":                        14,
		"select v from (t)":                                    15,
		"select v from (select v from t":                       30,
		"select v from (select v from t))":                     31,
		"select v from (select v from t) as a":                 32,
		"select v from t[1]":                                   17,
		"select v from t[]":                                    16,
		"select v from t[:][:]":                                18,
		"select v from t[1:*]":                                 18,
		"select v from t[1:-]":                                 19,
		"select v from t[1 2:]":                                18,
		"select v from t[a:]":                                  16,
		"select v from t order x":                              22,
		"select v from t order (x) where v":                    26,
		"select v from t order ()":                             23,
		"select v from t group y 0:1":                          22,
		"select v from t group by y":                           26,
		"select v from t group by y *:1":                       27,
		"select v from t group by y 0:1, 0:1":                  32,
		"select v from t regrid by -1":                         26,
		"select v from t regrid by 1,":                         28,
		"select v from t window 1":                             24,
		"select v from t window 1, 1":                          24,
		"select v from t window 1 1, 1":                        29,
		"select v from t vary x 1":                             24,
		"select v from t vary 1 1":                             21,
		"select v from t along":                                21,
		"select v from t along x along y":                      24,
		"select v from t rank v":                               22,
		"select v from t rank v in y":                          27,
		"select v from t rank v in as r":                       26,
		"select v from t rank v, y as r":                       22,
		"select sum(v) as s from t group by y 0:1 where v > 1": 41,
		"select v from t where v > 1 where v > 1":              28,
	} {
		if at, is := specFault(s); !is || at != want {
			t.Errorf("%q: the test itself is wrong: %d", s, at)
		}
		if !checkFault(t, db, s) {
			t.Errorf("%q: no fault", s)
		}
	}
}

// sentence returns the tokens of a query, made by the grammar.
func (d *dice) sentence(p productions, symbol string, size *int) []string {
	switch symbol {
	case "name":
		return names(pick(d, "t", "u", "v", "w", "x", "y", longName))
	case "number":
		return names(pick(d, "0", "1", "2", "64", "1099511627776"))
	case "text":
		return names(pick(d, "''", "'a'", "'it''s'", "' '"))
	}
	if symbol[0] == '"' {
		return names(strings.Trim(symbol, `"`))
	}
	*size++
	l := pick(d, p[symbol]...)
	if *size > 60 { // to come to an end, the alternative that is the shortest one
		l = slices.MinFunc(p[symbol], func(a, b []string) int { return cost(p, a) - cost(p, b) })
	}
	var out []string
	for _, x := range l {
		out = append(out, d.sentence(p, x, size)...)
	}
	return out
}

// cost is higher for alternatives that can go on without an end.
func cost(p productions, l []string) int {
	out := len(l)
	for _, x := range l {
		if x == `"("` || x == "query" || x == "factor" && l[0] != x || x == "negation" && l[0] != x {
			out += 9
		}
	}
	return out
}

// spaced returns tokens with spaces between them, where there have to be some, and elsewhere by chance.
func (d *dice) spaced(tokens []string, often int) string {
	out := ""
	for k, x := range tokens {
		need := false
		if k > 0 {
			both := tokens[k-1] + x
			_, size := specToken(both)
			need = size != len(tokens[k-1])
		}
		if need || d.from(0, 9) < often {
			out += pick(d, " ", " ", "  ", "\t", "\n", " \r\n ")
		}
		out += x
	}
	return out
}

func TestFaultsAgree(t *testing.T) {
	d := dice(31)
	db := base()
	p := productionsOfGrammar
	right, wrong := 0, 0
	for range 450 {
		size := 0
		tokens := d.sentence(p, "query", &size)
		s := d.spaced(tokens, d.from(0, 9))
		if len(s) > 400 {
			continue
		}
		if checkFault(t, db, s) {
			t.Fatalf("a sentence of the grammar has a fault: %q", s)
		}
		for range 4 {
			x := slices.Clone(tokens)
			i := d.from(0, len(x)-1)
			switch d.next() % 4 {
			case 0:
				x = slices.Delete(x, i, i+1)
			case 1:
				x[i] = pick(&d, append(slices.Clone(keywords), "(", ")", "[", "]", ",", ":", "*", "+", "-", "/", "=", "!=", "<", "a", "1", "'a'", "01", "abcdefghijklm", "'", "!", "A")...)
			case 2:
				x = slices.Insert(x, i, pick(&d, append(slices.Clone(keywords), "(", ")", "[", "]", ",", ":", "*", "+", "-", "/", "=", "!=", "<", "a", "1", "'a'", "00", "1a", ";")...))
			case 3:
				k := d.from(0, len(x)-1)
				x[i], x[k] = x[k], x[i]
			}
			s := d.spaced(x, d.from(0, 9))
			if d.next()%4 == 0 {
				s = d.changed(s)
			}
			if checkFault(t, db, s) {
				wrong++
			} else {
				right++
			}
		}
	}
	if right < 80 || wrong < 1000 {
		t.Error("too few queries of one kind were tested:", right, wrong)
	}
}

// P6.8

func TestKeyword(t *testing.T) {
	l := keywords
	if len(l) != 35 {
		t.Error("the test itself is wrong:", len(l))
	}
	for _, s := range l {
		if !query.Keyword(s) {
			t.Error(s)
		}
		for _, x := range names(s+" ", " "+s, s+"s", s[:len(s)-1], strings.ToUpper(s), `"`+s+`"`, s+"\x00", s+"_") {
			if query.Keyword(x) != slices.Contains(l, x) {
				t.Error(x)
			}
		}
	}
	for _, s := range names("", "sub", "filter", "apply", "project", "rename", "reshape", "transpose", "redim", "cumulate", "neg", "fail", "first", "last", "name", "number", "text", "query", "t", "dim", "scalar", "*", "(", "<=", "1", "select from", longName, "selects") {
		if query.Keyword(s) {
			t.Error(s)
		}
	}
}
