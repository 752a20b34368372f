package chunk

import "tesseract/api"

// giveUp is what a decoder panics with if it can't go on.
type giveUp struct{ e api.Errno }

// attempt runs a decoder, and returns the error with which it gave up.
func attempt(decode func()) (e api.Errno) {
	defer func() {
		switch r := recover().(type) {
		case nil:
		case giveUp:
			e = r.e
		default: // no bytes may stop a caller, so those that a decoder fails at are not well-formed
			e = api.ErrForm
		}
	}()
	decode()
	return api.OK
}

// reader reads bytes from their beginning on, and gives up if they end too early.
type reader struct{ rest []byte }

// take returns the next n bytes.
func (r *reader) take(n int) []byte {
	if n > len(r.rest) {
		panic(giveUp{api.ErrTorn})
	}
	b := r.rest[:n]
	r.rest = r.rest[n:]
	return b
}

// next returns the next byte.
func (r *reader) next() byte { return r.take(1)[0] }

// varint returns the number whose groups come next.
func (r *reader) varint() uint64 {
	x := uint64(0)
	for shift := 0; shift < 64; shift += 7 {
		group := r.next()
		x |= uint64(group&127) << shift
		if group < 128 {
			return x
		}
	}
	panic(giveUp{api.ErrForm})
}

// signed returns the integer whose signed varint comes next.
func (r *reader) signed() int64 {
	x := r.varint()
	return int64(x>>1) ^ -int64(x&1)
}

// below returns the varint that comes next, and gives up if it is not less than limit.
func (r *reader) below(limit int) int {
	x := r.varint()
	if x >= uint64(limit) {
		panic(giveUp{api.ErrForm})
	}
	return int(x)
}

// appendVarint appends x as a varint.
func appendVarint(out []byte, x uint64) []byte {
	for ; x >= 128; x >>= 7 {
		out = append(out, byte(x)|128)
	}
	return append(out, byte(x))
}

// appendSigned appends n as a signed varint.
func appendSigned(out []byte, n int64) []byte {
	return appendVarint(out, uint64(n<<1)^uint64(n>>63))
}
