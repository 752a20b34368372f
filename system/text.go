package system

import (
	"strconv"
	"strings"

	"tesseract/api"
	"tesseract/exact"
	"tesseract/space"
)

// done is the answer of a line that only changes something, and none that of one without lines.
const (
	done = "ok"
	none = "none"
)

// counted returns a word and a number.
func counted(word string, n int) string { return word + " " + strconv.Itoa(n) }

// lines returns an answer with some lines.
func lines(l []string) string {
	if len(l) == 0 {
		return none
	}
	return strings.Join(l, "\n")
}

// joined returns numbers with something between them.
func joined(l []int, between string) string {
	var out []string
	for _, n := range l {
		out = append(out, strconv.Itoa(n))
	}
	return strings.Join(out, between)
}

// boxText returns the string of a box.
func boxText(b api.Box) string {
	var out []string
	for k, lo := range b.Lo {
		hi := "*"
		if b.Hi[k] != api.Open {
			hi = strconv.Itoa(b.Hi[k])
		}
		out = append(out, strconv.Itoa(lo)+":"+hi)
	}
	return strings.Join(out, ", ")
}

// changeText returns the string of a change.
func changeText(c api.Change) string {
	out := joined(c.At, " ") + ":"
	for k, v := range c.Vals {
		if k > 0 {
			out += ","
		}
		out += " " + valueText(v)
	}
	return out
}

// valueText returns the string of a valid value.
func valueText(v api.Val) string {
	s, _ := exact.Print(v)
	return s
}

// arrayText returns the string of a valid array, without the last line end.
func arrayText(a api.Array) string {
	s, _ := space.Print(a)
	return strings.TrimSuffix(s, "\n")
}
