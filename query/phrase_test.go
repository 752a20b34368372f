package query_test

import (
	"fmt"
	"slices"
	"strings"

	"tesseract/api"
	"tesseract/query"
)

// This file makes queries, and translates them as the chapter says it, by strings.

// phrase is a scalar of a query: an operation with operands, or a number, a text, a word or a name.
type phrase struct {
	word string
	args []phrase
}

// level is the height of the grammar's symbol to which the phrase belongs: 0 for scalar, 8 for primary.
func (p phrase) level() int {
	switch {
	case p.word == "not":
		return 3
	case len(p.args) == 1 && p.word == "-":
		return 7
	case len(p.args) != 2:
		return 8
	}
	return map[string]int{"else": 0, "or": 1, "and": 2, "+": 5, "-": 5, "*": 6, "/": 6, "=": 4, "!=": 4, "<": 4, "<=": 4, ">": 4, ">=": 4}[p.word]
}

// tokens returns the tokens of a phrase where a symbol of a level, at least, has to stand.
func (p phrase) tokens(d *dice, least int) []string {
	own := p.level()
	var out []string
	switch {
	case own == 3 || own == 7:
		out = append(names(p.word), p.args[0].tokens(d, own)...)
	case own == 4:
		out = slices.Concat(p.args[0].tokens(d, 5), names(p.word), p.args[1].tokens(d, 5))
	case own < 8:
		out = slices.Concat(p.args[0].tokens(d, own), names(p.word), p.args[1].tokens(d, own+1))
	default:
		out = names(p.word)
		for k, x := range p.args {
			out = slices.Concat(out, names(strings.Repeat("(", max(0, 1-k))+strings.Repeat(",", min(k, 1))), x.tokens(d, 0))
		}
		if len(p.args) > 0 {
			out = append(out, ")")
		}
	}
	if own < least || d.next()%9 == 0 {
		out = slices.Concat(names("("), out, names(")"))
	}
	return out
}

// text returns the string of the phrase's translation, for a schema.
func (p phrase) text(a api.Array) string {
	var l []string
	for _, x := range p.args {
		l = append(l, x.text(a))
	}
	switch {
	case len(l) == 0 && p.isName() && slices.ContainsFunc(a.Dims, func(d api.Dim) bool { return d.Name == p.word }):
		return "@" + p.word
	case len(l) == 0 && p.isName():
		return "." + p.word
	case len(l) == 0:
		return p.word
	case len(l) == 1 && p.word == "-":
		return "neg(" + l[0] + ")"
	case len(l) == 2:
		return "(" + l[0] + " " + p.word + " " + l[1] + ")"
	}
	return p.word + "(" + strings.Join(l, ", ") + ")"
}

func (p phrase) isName() bool {
	return p.word[0] >= 'a' && p.word[0] <= 'z' && p.word != "true" && p.word != "false"
}

// phraseOf returns a phrase that is close to a scalar: there are no numbers but natural ones in queries.
func phraseOf(s api.Scalar) phrase {
	out := phrase{word: s.Name}
	for _, x := range s.Args {
		out.args = append(out.args, phraseOf(x))
	}
	if s.Op > api.SDim {
		out.word = strings.Fields("not - floor missing reason + - * / = != < <= > >= and or else if")[s.Op-api.SNot]
	}
	if s.Op == api.SConst {
		out.word = specValue(s.Val)
		if s.Val.Kind == api.KNum && s.Val.N < 0 {
			s.Val.N = -s.Val.N
			out = phrase{"-", []phrase{phraseOf(s)}}
		} else if s.Val.D > 1 {
			out = phrase{"/", []phrase{{word: fmt.Sprint(s.Val.N)}, {word: fmt.Sprint(s.Val.D)}}}
		}
	}
	return out
}

// spoken is a query; its numbers at are those of tokens.
type spoken struct {
	at    int
	items []spokenItem // none for *
	terms []spokenTerm
	where *phrase
	shape spokenShape
	order []string

	starAt, whereAt, orderAt int
}

type spokenItem struct {
	at   int
	name string
	fn   string  // an item with a function
	attr string  // its attribute
	by   *phrase // an item with as
}

type spokenTerm struct {
	linkAt, at, cutAt int

	link  string // none for the first one
	along string // behind on
	name  string
	query *spoken
	cut   []string // the tokens between brackets
	text  string   // what stands for them in the expression
}

type spokenShape struct {
	at     int
	tokens []string
	text   string // the expression, with E for the operand and A for the aggregates
	rank   bool
}

// copied returns a copy that shares no memory.
func (q *spoken) copied() *spoken {
	if q == nil {
		return nil
	}
	out := *q
	out.items, out.terms = slices.Clone(q.items), slices.Clone(q.terms)
	for k, x := range out.terms {
		out.terms[k].query = x.query.copied()
	}
	return &out
}

// talk is the tokens of a query.
type talk []string

// say adds tokens, and returns the number of the first one.
func (l *talk) say(tokens ...string) int {
	*l = append(*l, tokens...)
	return len(*l) - len(tokens)
}

// say adds the tokens of the query.
func (q *spoken) say(d *dice, l *talk) {
	q.at = l.say("select")
	if len(q.items) == 0 {
		q.starAt = l.say("*")
	}
	for k := range q.items {
		x := &q.items[k]
		if k > 0 {
			l.say(",")
		}
		switch {
		case x.fn != "" && x.attr != "":
			x.at = l.say(x.fn, "(", x.attr, ")", "as", x.name)
		case x.fn != "":
			x.at = l.say(x.fn, "(", ")", "as", x.name)
		case x.by != nil:
			x.at = l.say(append(x.by.tokens(d, 0), "as", x.name)...)
		default:
			x.at = l.say(x.name)
		}
	}
	l.say("from")
	for k := range q.terms {
		q.terms[k].say(d, l)
	}
	if q.where != nil {
		q.whereAt = l.say("where")
		l.say(q.where.tokens(d, 0)...)
	}
	q.shape.at = l.say(q.shape.tokens...)
	if len(q.order) > 0 {
		q.orderAt = l.say("order", "(")
		l.say(strings.Fields(strings.Join(q.order, " , "))...)
		l.say(")")
	}
}

func (x *spokenTerm) say(d *dice, l *talk) {
	if x.link != "" {
		x.linkAt = l.say(x.link)
	}
	if x.query != nil {
		l.say("(")
		x.query.say(d, l)
		l.say(")")
	} else {
		x.at = l.say(x.name)
	}
	if x.cut != nil {
		x.cutAt = l.say("[")
		l.say(append(x.cut, "]")...)
	}
	if x.link == "concat" {
		l.say("on", x.along)
	}
}

// made is an expression that was made so far: its string, its depth and the number of its nodes.
type made struct {
	text         string
	depth, nodes int
}

// failure is an error of a step, and the number of the token that is its place.
type failure struct {
	code api.Errno
	at   int
}

// stepped returns the expression with one more node, and panics with a failure if it has no schema.
func stepped(db api.DB, text string, at int, operands ...made) made {
	out := made{text, 1, 1}
	for _, x := range operands {
		out.depth = max(out.depth, x.depth+1)
		out.nodes += x.nodes
	}
	if out.depth > api.MaxDepth {
		panic(failure{api.ErrDeep, at})
	}
	if out.nodes > api.MaxNodes {
		panic(failure{api.ErrMany, at})
	}
	e, f := query.Read(text)
	if f != api.OK { // too many of something
		panic(failure{api.ErrArg, at})
	}
	if _, f := query.Schema(db, e); f != api.OK {
		panic(failure{f, at})
	}
	return out
}

// schemaOf returns the schema of what was made.
func schemaOf(db api.DB, x made) api.Array {
	a, _ := query.Schema(db, read(x.text))
	return a
}

// translate returns the string of the query's expression, or a failure.
func (q *spoken) translate(db api.DB) (out made, f failure) {
	defer func() {
		if r := recover(); r != nil {
			out, f = made{}, r.(failure)
		}
	}()
	return q.made(db), failure{}
}

func (q *spoken) made(db api.DB) made {
	var e made
	for _, x := range q.terms {
		second := x.made(db)
		switch x.link {
		case "":
			e = second
		case "concat":
			e = stepped(db, "concat("+e.text+", "+second.text+"; "+x.along+")", x.linkAt, e, second)
		default:
			e = stepped(db, x.link+"("+e.text+", "+second.text+")", x.linkAt, e, second)
		}
	}
	if q.where != nil {
		e = stepped(db, "filter("+e.text+"; "+q.where.text(schemaOf(db, e))+")", q.whereAt, e)
	}
	if q.shape.tokens != nil && !q.shape.rank {
		e = q.aggregated(db, e)
	} else {
		e = q.chosen(db, e)
	}
	if len(q.order) > 0 {
		e = stepped(db, "transpose("+e.text+"; "+strings.Join(q.order, ", ")+")", q.orderAt, e)
	}
	return e
}

func (x spokenTerm) made(db api.DB) made {
	var e made
	if x.query != nil {
		e = x.query.made(db)
	} else {
		e = stepped(db, x.name, x.at)
	}
	if x.cut != nil {
		e = stepped(db, "sub("+e.text+"; "+x.text+")", x.cutAt, e)
	}
	return e
}

func (q *spoken) aggregated(db api.DB, e made) made {
	if len(q.items) == 0 {
		panic(failure{api.ErrForm, q.starAt})
	}
	var l []string
	for _, x := range q.items {
		if x.fn == "" {
			panic(failure{api.ErrForm, x.at})
		}
		l = append(l, x.fn+"("+x.attr+") as "+x.name)
	}
	return stepped(db, strings.NewReplacer("E", e.text, "A", strings.Join(l, ", ")).Replace(q.shape.text), q.shape.at, e)
}

func (q *spoken) chosen(db api.DB, e made) made {
	var l []string
	for _, x := range q.items {
		if x.fn != "" {
			panic(failure{api.ErrForm, x.at})
		}
		l = append(l, x.name)
	}
	if q.shape.rank {
		e = stepped(db, strings.Replace(q.shape.text, "E", e.text, 1), q.shape.at, e)
	}
	for _, x := range q.items {
		if x.by != nil {
			e = stepped(db, "apply("+e.text+"; "+x.name+" = "+x.by.text(schemaOf(db, e))+")", x.at, e)
		}
	}
	if len(l) > 0 {
		e = stepped(db, "project("+e.text+"; "+strings.Join(l, ", ")+")", q.at, e)
	}
	return e
}

// spoken returns a query for a database. Most of its names are there.
func (d *dice) spoken(db api.DB, depth int) *spoken {
	q := &spoken{}
	q.terms = append(q.terms, d.term(db, depth))
	for range pick(d, 0, 0, 0, 1, 1, 2) {
		x := d.term(db, depth)
		x.link = pick(d, "join", "cross", "merge", "concat")
		if pick(d, 0, 1, 1) == 1 { // the other one once more
			x.name, x.query, x.link = q.terms[0].name, q.terms[0].query, pick(d, "merge", "concat")
			x.query = x.query.copied()
		}
		x.along = d.known(db, x)
		q.terms = append(q.terms, x)
	}
	a := d.guess(db, q)
	if d.next()%3 == 0 {
		p := phraseOf(d.typed(a, pick(d, api.TBool, api.TBool, api.TBool, api.TBool, api.TInt), 3))
		q.where = &p
	}
	if d.next()%2 == 0 {
		q.shape = d.shape(a)
	}
	if q.shape.tokens != nil && !q.shape.rank {
		for k := range d.from(1, 3) {
			fn := pick(d, "count", "sum", "avg", "min", "max", "var", "distinct", "count")
			attr := pick(d, a.Attrs...).Name
			if fn == "count" && d.next()%2 == 0 {
				attr = ""
			}
			q.items = append(q.items, spokenItem{name: names("a1", "a2", "a3")[k], fn: fn, attr: attr})
		}
	} else if d.next()%3 > 0 {
		q.items = d.items(a)
		if q.shape.rank && d.next()%2 == 0 {
			q.items = append(q.items, spokenItem{name: "r"})
		}
	}
	if d.next()%12 == 0 { // items that do not belong there
		q.items = append(q.items, pick(d, spokenItem{name: "a9", fn: "count"}, spokenItem{name: "v"}))
	}
	if b := d.guess(db, q); d.next()%4 == 0 {
		for _, x := range shuffled(d, b.Dims) {
			q.order = append(q.order, x.Name)
		}
		if d.next()%6 == 0 {
			q.order = append(q.order[1:], pick(d, "x", "v"))
		}
	}
	return q
}

// guess returns the schema of a query so far, or that of another array if there is none.
func (d *dice) guess(db api.DB, q *spoken) api.Array {
	e, f := q.translate(db)
	if f.code != api.OK || d.next()%25 == 0 {
		return pick(d, db...).Array
	}
	return schemaOf(db, e)
}

// known returns the name of a dimension that a term is likely to have.
func (d *dice) known(db api.DB, x spokenTerm) string {
	x.link = ""
	return pick(d, d.guess(db, &spoken{terms: []spokenTerm{x}}).Dims...).Name
}

func (d *dice) term(db api.DB, depth int) spokenTerm {
	x := spokenTerm{name: pick(d, db...).Name}
	if d.next()%20 == 0 {
		x.name = "none"
	}
	if depth > 1 && d.next()%3 == 0 {
		x.name, x.query = "", d.spoken(db, depth-1)
	}
	if d.next()%4 == 0 {
		a := d.guess(db, &spoken{terms: []spokenTerm{x}})
		var l []string
		x.cut = []string{}
		for k, y := range a.Dims {
			if k > 0 {
				x.cut = append(x.cut, ",")
			}
			lo, hi := "-1073741824", "*"
			if d.next()%3 > 0 {
				lo = fmt.Sprint(y.Lo + d.from(-1, 2))
				x.cut = append(x.cut, integerTokens(lo)...)
			}
			x.cut = append(x.cut, ":")
			if d.next()%3 > 0 {
				hi = fmt.Sprint(y.Lo + d.from(0, 5))
				x.cut = append(x.cut, integerTokens(hi)...)
			}
			l = append(l, lo+":"+hi)
		}
		x.text = strings.Join(l, ", ")
	}
	return x
}

// integerTokens returns the tokens of an integer.
func integerTokens(s string) []string {
	if rest, below := strings.CutPrefix(s, "-"); below {
		return names("-", rest)
	}
	return names(s)
}

func (d *dice) items(a api.Array) []spokenItem {
	var out []spokenItem
	var have []string
	for _, x := range a.Attrs {
		have = append(have, x.Name)
	}
	for k := range d.from(1, 3) {
		x := spokenItem{name: pick(d, have...)}
		if d.next()%2 == 0 {
			p := phraseOf(d.typed(a, d.from(api.TBool, api.TText), d.from(1, 4)))
			x.name, x.by = names("n1", "n2", "n3")[k], &p
		} else {
			have = slices.DeleteFunc(have, func(s string) bool { return s == x.name && len(have) > 1 })
		}
		out = append(out, x)
	}
	return out
}

func (d *dice) shape(a api.Array) spokenShape {
	along := pick(d, a.Dims...).Name
	attr := pick(d, a.Attrs...).Name
	reach := func() string { return pick(d, "0", "1", "2", "2", "65") }
	switch d.from(1, 6) {
	case 1:
		x := pick(d, append(dimNames(a), attr)...)
		lo, hi := fmt.Sprint(d.from(-3, 0)), pick(d, "*", "9", "0", "-4")
		return spokenShape{tokens: slices.Concat(names("group", "by", x), integerTokens(lo), names(":"), integerTokens(hi)), text: "group(E; " + x + " " + lo + ":" + hi + "; A)"}
	case 2:
		l := many(d, len(a.Dims), len(a.Dims), func() string { return pick(d, "1", "2", "3", "3", "0") })
		return spokenShape{tokens: append(names("regrid", "by"), strings.Fields(strings.Join(l, " , "))...), text: "regrid(E; " + strings.Join(l, ", ") + "; A)"}
	case 3:
		l := many(d, len(a.Dims), len(a.Dims), func() string { return reach() + " " + reach() })
		return spokenShape{tokens: append(names("window"), strings.Fields(strings.Join(l, " , "))...), text: "window(E; " + strings.ReplaceAll(strings.ReplaceAll(strings.Join(l, ","), " ", ":"), ",", ", ") + "; A)"}
	case 4:
		lo, hi := reach(), reach()
		return spokenShape{tokens: names("vary", along, lo, hi), text: "vary(E; " + along + " " + lo + ":" + hi + "; A)"}
	case 5:
		return spokenShape{tokens: names("along", along), text: "cumulate(E; " + along + "; A)"}
	}
	if d.next()%2 == 0 {
		return spokenShape{rank: true, tokens: names("rank", attr, "as", "r"), text: "rank(E; " + attr + "; r)"}
	}
	l := shuffled(d, dimNames(a))[:d.from(1, len(a.Dims))]
	return spokenShape{rank: true, tokens: slices.Concat(names("rank", attr, "in"), strings.Fields(strings.Join(l, " , ")), names("as", "r")), text: "rank(E; " + attr + ", " + strings.Join(l, ", ") + "; r)"}
}

// dimNames returns the names of the dimensions of an array.
func dimNames(a api.Array) []string {
	var out []string
	for _, x := range a.Dims {
		out = append(out, x.Name)
	}
	return out
}

// offsets returns where the tokens of a string begin.
func offsets(s string) []int {
	var out []int
	for at := 0; at < len(s); {
		if strings.IndexByte(" \t\n\r", s[at]) >= 0 {
			at++
			continue
		}
		_, size := specToken(s[at:])
		out = append(out, at)
		at += size
	}
	return out
}
