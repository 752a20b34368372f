package chunk

import "tesseract/api"

// The first bytes of values.
const (
	tagMissing  = 0
	tagFalse    = 1
	tagTrue     = 2
	tagInteger  = 3
	tagFraction = 4
	tagText     = 5
)

// appendValue appends the bytes of a valid value; an integer is represented by its difference from before.
func appendValue(out []byte, v api.Val, before int64) []byte {
	switch {
	case v.Kind == api.KMissing:
		return append(out, tagMissing, byte(v.N))
	case v.Kind == api.KBool:
		return append(out, tagFalse+byte(v.N))
	case v.Kind == api.KText:
		return append(append(out, tagText, byte(len(v.S))), v.S...)
	case v.D == 1:
		return appendSigned(append(out, tagInteger), v.N-before)
	}
	return appendVarint(appendSigned(append(out, tagFraction), v.N), uint64(v.D))
}

// readValue reads the bytes of a value, which need not be valid.
func readValue(r *reader, before int64) api.Val {
	switch r.next() {
	case tagMissing:
		return api.Val{Kind: api.KMissing, N: int64(r.next())}
	case tagFalse:
		return api.Val{Kind: api.KBool}
	case tagTrue:
		return api.Val{Kind: api.KBool, N: 1}
	case tagInteger:
		return api.Val{Kind: api.KNum, N: before + r.signed(), D: 1}
	case tagFraction:
		return api.Val{Kind: api.KNum, N: r.signed(), D: int64(r.varint())}
	case tagText:
		return api.Val{Kind: api.KText, S: string(r.take(int(r.next())))}
	}
	panic(giveUp{api.ErrForm})
}

// lastInteger returns the last integer of a column as far as v: v itself, or else the one before it.
func lastInteger(v api.Val, before int64) int64 {
	if v.Kind == api.KNum && v.D == 1 {
		return v.N
	}
	return before
}
