package space

import "tesseract/api"

// Name reports whether a string is a name.
func Name(s string) bool {
	if s == "" || len(s) > api.MaxName || !isLetter(s[0]) {
		return false
	}
	for i := range len(s) {
		if !isLetter(s[i]) && (s[i] < '0' || s[i] > '9') && s[i] != '_' {
			return false
		}
	}
	return true
}

// isLetter reports whether a byte is one of the letters that names have.
func isLetter(c byte) bool { return c >= 'a' && c <= 'z' }

// names are those that were met.
type names map[string]bool

// takes reports whether s is a name that was not met before, and remembers it.
func (n names) takes(s string) bool {
	if !Name(s) || n[s] {
		return false
	}
	n[s] = true
	return true
}

// dimsError returns the error of dimensions. Their names are then among those that were met.
func dimsError(d []api.Dim, met names) api.Errno {
	if len(d) == 0 || len(d) > api.MaxDims {
		return api.ErrShape
	}
	for _, x := range d {
		if !met.takes(x.Name) {
			return api.ErrName
		}
		if x.Lo < -api.MaxCoord || x.Lo > api.MaxCoord || x.Hi < x.Lo || x.Hi > api.Open {
			return api.ErrRange
		}
	}
	return api.OK
}

// Schema checks dimensions and attributes.
func Schema(d []api.Dim, a []api.Attr) api.Errno {
	met := names{}
	if e := dimsError(d, met); e != api.OK {
		return e
	}
	if len(a) == 0 || len(a) > api.MaxAttrs {
		return api.ErrMany
	}
	for _, x := range a {
		if !met.takes(x.Name) {
			return api.ErrName
		}
		if x.Type < api.TBool || x.Type > api.TText {
			return api.ErrType
		}
	}
	return api.OK
}

// Database checks a database.
func Database(db api.DB) api.Errno {
	if len(db) > api.MaxArrays {
		return api.ErrMany
	}
	met := names{}
	for _, x := range db {
		if !met.takes(x.Name) {
			return api.ErrName
		}
		if Check(x.Array) != api.OK {
			return api.ErrArg
		}
	}
	return api.OK
}

// Find returns the array with a name.
func Find(db api.DB, name string) (api.Array, bool) {
	if Database(db) != api.OK {
		return api.Array{}, false
	}
	for _, x := range db {
		if x.Name == name {
			return copied(x.Array.Dims, x.Array.Attrs, x.Array.Cells), true
		}
	}
	return api.Array{}, false
}
