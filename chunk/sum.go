package chunk

// sumBytes is how many bytes a checksum has.
const sumBytes = 4

// halfBytes are the checksums' remainders after four steps from each half of a byte.
var halfBytes = [16]uint32{
	0x00000000, 0x105ec76f, 0x20bd8ede, 0x30e349b1, 0x417b1dbc, 0x5125dad3, 0x61c69362, 0x7198540d,
	0x82f63b78, 0x92a8fc17, 0xa24bb5a6, 0xb21572c9, 0xc38d26c4, 0xd3d3e1ab, 0xe330a81a, 0xf36e6f75,
}

// Sum returns the checksum of bytes.
func Sum(b []byte) uint32 {
	r := ^uint32(0)
	for _, c := range b {
		r ^= uint32(c)
		r = r>>4 ^ halfBytes[r&15]
		r = r>>4 ^ halfBytes[r&15]
	}
	return ^r
}

// seal returns the bytes of the checksum of b.
func seal(b []byte) [sumBytes]byte {
	s := Sum(b)
	return [sumBytes]byte{byte(s >> 24), byte(s >> 16), byte(s >> 8), byte(s)}
}
