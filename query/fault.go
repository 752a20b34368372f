package query

import "tesseract/api"

// fault is a panic that ends reading: an error, and the offset of its place.
type fault struct {
	at   int
	code api.Errno
}

// faultOf calls a function, and returns the fault that ends it; if there is none, one with the code OK.
func faultOf(read func()) (out fault) {
	defer func() {
		r := recover()
		if r == nil {
			return
		}
		f, is := r.(fault)
		if !is {
			f = fault{code: api.ErrForm} // no panic may leave the package, and what ended otherwise was not read
		}
		out = f
	}()
	read()
	return fault{}
}
