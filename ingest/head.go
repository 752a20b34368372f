package ingest

// A disk has two heads, its first sectors, and behind them two halves, one of which is the log. A head has the number of a log at both of its ends,
// so that one that was torn while it was written is found out. Logs are written in turn into the halves, and their numbers into the heads.

const (
	heads       = 2
	title       = "tesseract store" // stands behind the first number of a head
	numberBytes = 8
)

// headOf returns the head of the log with a number.
func headOf(number uint64) sector {
	var out sector
	copy(out[numberBytes:], title)
	for k := range numberBytes {
		out[k] = byte(number >> (8 * k))
		out[SectorBytes-numberBytes+k] = out[k]
	}
	return out
}

// numberOf returns the number of the log of a head, or 0 if the sector is not a head.
func numberOf(head sector) uint64 {
	var number uint64
	for k := range numberBytes {
		number |= uint64(head[k]) << (8 * k)
	}
	if head != headOf(number) {
		return 0
	}
	return number
}

// headIndex returns the sector of the head of a log.
func headIndex(number uint64) int { return int(number % heads) }

// room returns how many sectors each half of a disk has.
func (d *Disk) room() int { return (d.Sectors() - heads) / 2 }

// half returns the first sector of the half that has a log.
func (d *Disk) half(number uint64) int { return heads + headIndex(number)*d.room() }
