package space

import (
	"iter"
	"strconv"
	"strings"

	"tesseract/api"
	"tesseract/exact"
)

// typeNames are the names of the types in strings.
var typeNames = [...]string{api.TBool: "bool", api.TInt: "int", api.TRat: "rat", api.TText: "text"}

// Print returns the string of an array.
func Print(a api.Array) (string, api.Errno) {
	if Check(a) != api.OK {
		return "", api.ErrArg
	}
	var out strings.Builder
	for _, d := range a.Dims {
		out.WriteString("dim " + d.Name + " " + strconv.Itoa(d.Lo) + ":" + printUpper(d.Hi) + "\n")
	}
	for _, x := range a.Attrs {
		out.WriteString("attr " + x.Name + " " + typeNames[x.Type] + "\n")
	}
	for _, c := range a.Cells {
		printCell(&out, c)
	}
	return out.String(), api.OK
}

// printUpper returns the string of the upper bound of a dimension.
func printUpper(hi int) string {
	if hi == api.Open {
		return "*"
	}
	return strconv.Itoa(hi)
}

// printCell writes the line of a cell.
func printCell(out *strings.Builder, c api.Cell) {
	for k, x := range c.At {
		if k > 0 {
			out.WriteByte(' ')
		}
		out.WriteString(strconv.Itoa(x))
	}
	separator := ": "
	for _, v := range c.Vals {
		s, _ := exact.Print(v)
		out.WriteString(separator + s)
		separator = ", "
	}
	out.WriteByte('\n')
}

// Parse returns the array that a string denotes.
// A string is that of an array if it is found again from the array that it seems to denote.
func Parse(s string) (api.Array, api.Errno) {
	a, ok := seeming(s)
	if !ok {
		return api.Array{}, api.ErrForm
	}
	if again, e := Print(a); e != api.OK || again != s {
		return api.Array{}, api.ErrForm
	}
	return a, api.OK
}

// seeming returns the array that s denotes, if it denotes one.
func seeming(s string) (api.Array, bool) {
	var a api.Array
	for line := range strings.Lines(s) {
		line = strings.TrimSuffix(line, "\n")
		ok := false
		if rest, is := strings.CutPrefix(line, "dim "); is {
			ok = readDim(&a, rest)
		} else if rest, is := strings.CutPrefix(line, "attr "); is {
			ok = readAttr(&a, rest)
		} else {
			ok = readCell(&a, line)
		}
		if !ok {
			return api.Array{}, false
		}
	}
	return a, true
}

// readDim adds the dimension of a line to an array, and reports whether it is one.
func readDim(a *api.Array, line string) bool {
	name, bounds, _ := strings.Cut(line, " ")
	lower, upper, _ := strings.Cut(bounds, ":")
	lo, err := strconv.Atoi(lower)
	if err != nil {
		return false
	}
	hi := api.Open
	if upper != "*" {
		if hi, err = strconv.Atoi(upper); err != nil {
			return false
		}
	}
	a.Dims = append(a.Dims, api.Dim{Name: name, Lo: lo, Hi: hi})
	return true
}

// readAttr adds the attribute of a line to an array, and reports whether it is one.
func readAttr(a *api.Array, line string) bool {
	name, typeName, _ := strings.Cut(line, " ")
	for typ := api.TBool; typ <= api.TText; typ++ {
		if typeNames[typ] == typeName {
			a.Attrs = append(a.Attrs, api.Attr{Name: name, Type: typ})
			return true
		}
	}
	return false
}

// readCell adds the cell of a line to an array, and reports whether it is one.
func readCell(a *api.Array, line string) bool {
	coordinates, values, ok := strings.Cut(line, ": ")
	if !ok {
		return false
	}
	var c api.Cell
	for s := range strings.SplitSeq(coordinates, " ") {
		x, err := strconv.Atoi(s)
		if err != nil {
			return false
		}
		c.At = append(c.At, x)
	}
	for s := range splitValues(values) {
		v, e := exact.Read(strings.TrimPrefix(s, " "))
		if e != api.OK {
			return false
		}
		c.Vals = append(c.Vals, v)
	}
	a.Cells = append(a.Cells, c)
	return true
}

// splitValues yields the parts of a string between the commas that are not within quotes.
// A quote within a text stands twice, so it does not end the text.
func splitValues(s string) iter.Seq[string] {
	return func(yield func(string) bool) {
		start, quoted := 0, false
		for i := range len(s) {
			if s[i] == '\'' {
				quoted = !quoted
			}
			if s[i] != ',' || quoted {
				continue
			}
			if !yield(s[start:i]) {
				return
			}
			start = i + 1
		}
		yield(s[start:])
	}
}
