package ingest

import "tesseract/api"

// coder goes through the fields of a record: a writer writes them, a reader sets them.
type coder interface {
	number(x *int64)
	text(s *string)
	length(n int) int // that of a list which has n elements so far
}

// writer is the fields that were written.
type writer struct{ bytes []byte }

// number writes 7 bits in each byte, the lowest ones first; the numbers 0, -1, 1, -2 .. are written as 0, 1, 2, 3 ..
func (w *writer) number(x *int64) {
	u := uint64(*x)<<1 ^ uint64(*x>>63)
	for ; u >= 128; u >>= 7 {
		w.bytes = append(w.bytes, byte(u)|128)
	}
	w.bytes = append(w.bytes, byte(u))
}

func (w *writer) text(s *string) {
	w.length(len(*s))
	w.bytes = append(w.bytes, *s...)
}

func (w *writer) length(n int) int {
	x := int64(n)
	w.number(&x)
	return n
}

// reader is the bytes that were not read yet. Behind their end all fields are zeros.
type reader struct{ rest []byte }

func (r *reader) number(x *int64) {
	var u uint64
	for shift := 0; len(r.rest) > 0; shift += 7 {
		b := r.rest[0]
		r.rest = r.rest[1:]
		u |= uint64(b&127) << shift
		if b < 128 {
			break
		}
	}
	*x = int64(u>>1) ^ -int64(u&1)
}

func (r *reader) text(s *string) {
	n := r.length(0)
	*s = string(r.rest[:n])
	r.rest = r.rest[n:]
}

// length is never more than how many bytes there are, so that bytes that nobody wrote make no long lists.
func (r *reader) length(int) int {
	var x int64
	r.number(&x)
	return int(min(max(0, x), int64(len(r.rest))))
}

// codeInt codes a number that is an int.
func codeInt(c coder, x *int) {
	n := int64(*x)
	c.number(&n)
	*x = int(n)
}

// codeList codes a list.
func codeList[E any](c coder, l *[]E, code func(c coder, x *E)) {
	if n := c.length(len(*l)); n != len(*l) {
		*l = make([]E, n)
	}
	for k := range *l {
		code(c, &(*l)[k])
	}
}

func codeDim(c coder, x *api.Dim) {
	c.text(&x.Name)
	codeInt(c, &x.Lo)
	codeInt(c, &x.Hi)
}

func codeAttr(c coder, x *api.Attr) {
	c.text(&x.Name)
	codeInt(c, &x.Type)
}

func codeVal(c coder, x *api.Val) {
	codeInt(c, &x.Kind)
	c.number(&x.N)
	c.number(&x.D)
	c.text(&x.S)
}

func codeChange(c coder, x *api.Change) {
	codeList(c, &x.At, codeInt)
	codeList(c, &x.Vals, codeVal)
}

// codeArray codes the name and the schema of an array.
func codeArray(c coder, x *api.Named) {
	c.text(&x.Name)
	codeList(c, &x.Array.Dims, codeDim)
	codeList(c, &x.Array.Attrs, codeAttr)
}

func codeEntry(c coder, x *entry) {
	c.text(&x.token)
	c.number(&x.stamp)
	codeInt(c, &x.array)
	codeList(c, &x.changes, codeChange)
}
