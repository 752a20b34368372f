package chunk

import (
	"bytes"
	"iter"

	"tesseract/api"
)

// MaxBytes is how many bytes can be packed.
const MaxBytes = 1 << 20

const (
	maxPacked   = MaxBytes + MaxBytes/maxLiterals // as many bytes as MaxBytes bytes can be packed as
	maxLiterals = 128                             // the literals of an item; the first byte of another item is at least this
	minRun      = 3
	minCopy     = 4
	moreRepeats = 127 // by how many bytes a run or copy can be longer than the shortest one
	maxDistance = 1024
)

// codec packs and unpacks bytes. The unpacker gives up if the bytes can't be unpacked, but does not examine whether they were packed in this way.
type codec struct {
	pack   func(b []byte) []byte
	unpack func(b []byte) []byte
}

// codecs returns the codecs by their numbers.
func codecs() [api.Lz + 1]codec {
	return [...]codec{
		api.Plain: {pack: bytes.Clone, unpack: bytes.Clone},
		api.Rle: {
			pack:   func(b []byte) []byte { return packed(b, minRun, runs(b)) },
			unpack: func(b []byte) []byte { return unpacked(b, 1, appendRun) },
		},
		api.Lz: {
			pack:   func(b []byte) []byte { return packed(b, minCopy, copies(b)) },
			unpack: func(b []byte) []byte { return unpacked(b, 2, appendCopy) },
		},
	}
}

// isCodec reports whether there is such a codec.
func isCodec(codec int) bool { return codec >= api.Plain && codec <= api.Lz }

// Pack encodes bytes by a codec.
func Pack(codec int, b []byte) ([]byte, api.Errno) {
	if !isCodec(codec) {
		return nil, api.ErrArg
	}
	if len(b) > MaxBytes {
		return nil, api.ErrLong
	}
	return codecs()[codec].pack(b), api.OK
}

// Unpack decodes bytes that Pack returned.
// Most bytes can be packed in several ways, of which Pack chooses one: it packs them again to exclude the others.
func Unpack(codec int, b []byte) ([]byte, api.Errno) {
	if !isCodec(codec) {
		return nil, api.ErrArg
	}
	if len(b) > maxPacked {
		return nil, api.ErrLong
	}
	var out []byte
	if e := attempt(func() { out = codecs()[codec].unpack(b) }); e != api.OK {
		return nil, e
	}
	again, e := Pack(codec, out)
	if e != api.OK {
		return nil, e
	}
	if !bytes.Equal(again, b) {
		return nil, api.ErrForm
	}
	return out, api.OK
}

// item is an item of packed bytes: its first byte, and those behind it.
type item struct {
	head byte
	tail []byte
}

// A finder returns the length of the longest run or copy at the index i, and the bytes behind the first one of its item.
type finder func(i int) (int, []byte)

// packed returns the items of b, in which a run or copy has at least a certain length.
func packed(b []byte, least int, find finder) []byte {
	var out []byte
	for x := range items(b, least, find) {
		out = append(append(out, x.head), x.tail...)
	}
	return out
}

// items yields the items of bytes to be packed.
func items(b []byte, least int, find finder) iter.Seq[item] {
	return func(yield func(item) bool) {
		start, i := 0, 0 // the bytes from start to i are literals that are in no item yet
		for i < len(b) {
			n, tail := find(i)
			if start < i && (n >= least || i-start == maxLiterals) {
				if !yield(literals(b[start:i])) {
					return
				}
				start = i
			}
			if n < least {
				i++
				continue
			}
			if !yield(item{byte(n - least + maxLiterals), tail}) {
				return
			}
			i += n
			start = i
		}
		if start < len(b) {
			yield(literals(b[start:]))
		}
	}
}

// literals returns the item of some literals.
func literals(b []byte) item { return item{byte(len(b) - 1), b} }

// unpacked returns the bytes of which b are the items. A run or copy has some bytes behind the first one of its item;
// repeat appends it, and more is by how much it is longer than the shortest one.
func unpacked(b []byte, behind int, repeat func(out []byte, more int, tail []byte) []byte) []byte {
	var out []byte
	for x := range packedItems(b, behind) {
		if x.head < maxLiterals {
			out = append(out, x.tail...)
		} else {
			out = repeat(out, int(x.head)-maxLiterals, x.tail)
		}
		if len(out) > MaxBytes {
			panic(giveUp{api.ErrLong})
		}
	}
	return out
}

// packedItems yields the items that packed bytes consist of.
func packedItems(b []byte, behind int) iter.Seq[item] {
	return func(yield func(item) bool) {
		r := reader{b}
		for len(r.rest) > 0 {
			head, n := r.next(), behind
			if head < maxLiterals {
				n = int(head) + 1
			}
			if !yield(item{head, r.take(n)}) {
				return
			}
		}
	}
}
