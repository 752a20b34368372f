package system

import (
	"iter"
	"slices"
	"strconv"
	"strings"

	"tesseract/api"
	"tesseract/exact"
)

// request is what a line asks for: its arguments, those of each form in their order.
type request struct {
	words   []string
	arrays  []*stored // those that the first words name, as far as they have to be there
	numbers []int
	lists   [][]int
	box     api.Box
	layout  api.Layout
	dims    []api.Dim
	attrs   []api.Attr
	aggs    []api.Agg
	changes []api.Change
	query   string
}

// unformed is the panic that ends the reading of a line that is not well-formed.
type unformed struct{}

// require ends the reading of a line unless something is as it has to be.
func require(is bool) {
	if !is {
		panic(unformed{})
	}
}

// requestOf returns the command of a line, and its request.
func requestOf(line string) (command, *request) {
	for k := range len(line) {
		require(line[k] >= 32 && line[k] <= 126)
	}
	parts := divided(line, ';')
	words := strings.Fields(parts[0])
	require(len(words) > 0)
	c, have := commands()[words[0]]
	require(have)
	if words[0] == "select" { // the only line that is not divided
		parts, words = []string{"", strings.Trim(line, " ")}, words[:1]
	}
	r := &request{}
	wordForms, partForms := c.forms(len(parts) - 1)
	r.take(wordForms, words[1:])
	r.take(partForms, parts[1:])
	return c, r
}

// divided returns what bytes that are not in quotes separate in a string, without the spaces at both ends.
func divided(s string, separator byte) []string {
	var out []string
	for more := true; more; {
		var x string
		x, s, more = cut(s, separator)
		out = append(out, strings.Trim(x, " "))
	}
	return out
}

// cut returns what is in front of the first of some bytes that is not in quotes, and behind it, and whether there is one.
func cut(s string, separator byte) (before, after string, found bool) {
	quoted := false
	for k := range len(s) {
		switch {
		case s[k] == '\'':
			quoted = !quoted
		case s[k] == separator && !quoted:
			return s[:k], s[k+1:], true
		}
	}
	return s, "", false
}

// take takes arguments that must have some forms.
func (r *request) take(wanted, l []string) {
	require(len(l) == len(wanted))
	readers := map[string]func(*request, string){
		"N": (*request).word, "M": (*request).word, "B": (*request).word, "T": (*request).word,
		"I": (*request).number, "L": (*request).list, "X": (*request).bounds,
		"O": (*request).order, "F": (*request).form, "K": (*request).codec,
		"D": (*request).dimensions, "A": (*request).attributes, "G": (*request).aggregates,
		"C": (*request).change, "Q": (*request).rest,
	}
	for k, s := range l {
		readers[wanted[k]](r, s)
	}
}

func (r *request) word(s string) { r.words = append(r.words, s) }

func (r *request) number(s string) { r.numbers = append(r.numbers, integer(s)) }

func (r *request) list(s string) {
	var l []int
	if s != "-" {
		for _, x := range strings.Split(s, ",") {
			l = append(l, integer(x))
		}
	}
	r.lists = append(r.lists, l)
}

func (r *request) bounds(s string) {
	for _, x := range strings.Split(s, ",") {
		lo, hi := bounds(x)
		r.box.Lo, r.box.Hi = append(r.box.Lo, lo), append(r.box.Hi, hi)
	}
}

func (r *request) order(s string) {
	if side, is := strings.CutPrefix(s, "tiled"); is {
		r.layout.Order, r.layout.Tile = api.Tiled, integer(side)
		require(r.layout.Tile >= 0)
		return
	}
	r.layout.Order = chosen(s, "rowmajor", "hilbert")
}

func (r *request) form(s string) { r.layout.Form = chosen(s, "dense", "runs", "coords") }

func (r *request) codec(s string) { r.layout.Codec = chosen(s, "plain", "rle", "lz") }

func (r *request) dimensions(s string) {
	for name, rest := range pairs(s) {
		lo, hi := bounds(rest)
		r.dims = append(r.dims, api.Dim{Name: name, Lo: lo, Hi: hi})
	}
}

func (r *request) attributes(s string) {
	for name, typ := range pairs(s) {
		r.attrs = append(r.attrs, api.Attr{Name: name, Type: chosen(typ, "bool", "int", "rat", "text")})
	}
}

func (r *request) aggregates(s string) {
	for _, x := range strings.Split(s, ",") {
		fn, rest, opened := strings.Cut(strings.Trim(x, " "), "(")
		attr, rest, closed := strings.Cut(rest, ")")
		require(opened && closed && strings.HasPrefix(rest, " ") && strings.Trim(attr, nameLetters) == "")
		words := strings.Fields(rest)
		require(len(words) == 2 && words[0] == "as")
		r.aggs = append(r.aggs, api.Agg{Fn: chosen(fn, "count", "sum", "avg", "min", "max", "var", "distinct"), Attr: attr, As: words[1]})
	}
}

// nameLetters are the letters of names.
const nameLetters = "abcdefghijklmnopqrstuvwxyz0123456789_"

func (r *request) change(s string) {
	at, vals, found := cut(s, ':')
	require(found)
	var c api.Change
	for _, x := range strings.Fields(at) {
		c.At = append(c.At, integer(x))
	}
	require(len(c.At) > 0)
	if vals != "" { // there are no spaces at the end of the part
		for _, x := range divided(vals, ',') {
			v, e := exact.Read(x)
			require(e == api.OK)
			c.Vals = append(c.Vals, v)
		}
	}
	r.changes = append(r.changes, c)
}

func (r *request) rest(s string) { r.query = s }

// integer returns the number of a string.
func integer(s string) int {
	n, err := strconv.ParseInt(s, 10, 64)
	require(err == nil && strconv.FormatInt(n, 10) == s && -api.MaxNum <= n && n <= api.MaxNum)
	return int(n)
}

// bounds returns the bounds of a dimension or of a box.
func bounds(s string) (lo, hi int) {
	low, high, found := strings.Cut(s, ":")
	require(found)
	if high == "*" {
		return integer(low), api.Open
	}
	return integer(low), integer(high)
}

// pairs yields what commas separate in a string: each consists of two words.
func pairs(s string) iter.Seq2[string, string] {
	return func(yield func(string, string) bool) {
		for _, x := range strings.Split(s, ",") {
			words := strings.Fields(x)
			require(len(words) == 2)
			if !yield(words[0], words[1]) {
				return
			}
		}
	}
}

// chosen returns the number of a word, from 1 on, among those that are possible.
func chosen(s string, possible ...string) int {
	k := slices.Index(possible, s)
	require(k >= 0)
	return k + 1
}
