package query

import (
	"strconv"
	"strings"

	"tesseract/api"
	"tesseract/exact"
)

// token is a token of a query, or what else there is at a place.
type token struct {
	kind int
	at   int     // the offset of the first byte
	text string  // a keyword, a symbol or a name
	val  api.Val // what a number or a text denotes
}

// The kinds of tokens.
const (
	nothing    = iota // a byte that begins no token
	endToken          // the end of the string
	fixedToken        // a keyword or a symbol
	nameToken
	numberToken
	textToken
)

// Keyword reports whether a string is a word of the query language.
func Keyword(s string) bool {
	switch s {
	case "select", "from", "where", "order", "as", "join", "cross", "merge", "concat", "on",
		"group", "regrid", "by", "window", "vary", "along", "rank", "in",
		"count", "sum", "avg", "min", "max", "var", "distinct",
		"else", "or", "and", "not", "true", "false", "floor", "missing", "reason", "if":
		return true
	}
	return false
}

// tokens sends the tokens of a query, up to the end or the first byte that begins none.
func tokens(s string) <-chan token {
	out := make(chan token)
	go func() {
		defer close(out)
		at := 0
		for {
			for at < len(s) && isSpace(s[at]) {
				at++
			}
			t, size := tokenOf(s[at:])
			t.at = at
			out <- t
			if size == 0 {
				return
			}
			at += size
		}
	}()
	return out
}

// tokenOf returns the token at the beginning of a string, and its size, which is 0 if there is none.
func tokenOf(s string) (token, int) {
	switch {
	case s == "":
		return token{kind: endToken}, 0
	case isLetter(s[0]):
		return wordOf(s)
	case isDigit(s[0]):
		return numberOf(s)
	case s[0] == '\'':
		return textOf(s)
	}
	if size := symbolSize(s); size > 0 {
		return token{kind: fixedToken, text: s[:size]}, size
	}
	return token{}, 0
}

// wordOf returns the keyword or the name at the beginning of a string.
func wordOf(s string) (token, int) {
	size := runSize(s, isWordByte)
	if size > api.MaxName {
		return token{}, 0
	}
	if Keyword(s[:size]) {
		return token{kind: fixedToken, text: s[:size]}, size
	}
	return token{kind: nameToken, text: s[:size]}, size
}

// numberOf returns the number at the beginning of a string.
func numberOf(s string) (token, int) {
	size := runSize(s, isDigit)
	if size > 1 && s[0] == '0' || size < len(s) && isWordByte(s[size]) {
		return token{}, 0
	}
	n, err := strconv.ParseInt(s[:size], 10, 64)
	if err != nil || n > api.MaxNum {
		return token{}, 0
	}
	return token{kind: numberToken, val: api.Val{Kind: api.KNum, N: n, D: 1}}, size
}

// textOf returns the text at the beginning of a string.
func textOf(s string) (token, int) {
	size := textSize(s)
	v, e := exact.Read(s[:size])
	if e != api.OK {
		return token{}, 0
	}
	return token{kind: textToken, val: v}, size
}

// textSize returns the size of the longest text, with its quotes, at the beginning of a string, however long; 0 if there is none.
// A quote may be the last one, or the first one of two that stand for one: so there may be a text although a longer one is not complete.
func textSize(s string) int {
	size := 0
	for n := 1; n < len(s) && s[n] >= ' ' && s[n] <= '~'; n++ {
		if s[n] != '\'' {
			continue
		}
		n++
		size = n
		if n == len(s) || s[n] != '\'' {
			break
		}
	}
	return size
}

// symbolSize returns the size of the longest symbol at the beginning of a string, 0 if there is none.
func symbolSize(s string) int {
	if strings.HasPrefix(s, "!=") || strings.HasPrefix(s, "<=") || strings.HasPrefix(s, ">=") {
		return 2
	}
	if strings.IndexByte("()[],:*+-/=<>", s[0]) >= 0 {
		return 1
	}
	return 0
}

// runSize returns how many bytes at the beginning of a string belong to a set.
func runSize(s string, belongs func(byte) bool) int {
	n := 0
	for n < len(s) && belongs(s[n]) {
		n++
	}
	return n
}

// isSpace reports whether a byte may be between tokens.
func isSpace(c byte) bool { return c == ' ' || c == '\t' || c == '\n' || c == '\r' }

// isLetter reports whether a byte is one of the letters that words have.
func isLetter(c byte) bool { return c >= 'a' && c <= 'z' }

// isDigit reports whether a byte is a decimal digit.
func isDigit(c byte) bool { return c >= '0' && c <= '9' }

// isWordByte reports whether a byte can be one of a word, behind its first one.
func isWordByte(c byte) bool { return isLetter(c) || isDigit(c) || c == '_' }
