package ingest

import "tesseract/api"

// The kinds of records. Where no record begins, the kind is that of none.
const (
	noRecord = iota
	arrayRecord
	tokenRecord
	cellRecord
	batchRecord
)

// How many sectors records have: just as many as the chapter counts, so that the use of a store is the length of its log, and what it needs without a log.
const (
	useWithoutLog   = 1
	sectorsOfArray  = 8
	sectorsOfToken  = 1
	sectorsOfBatch  = 2 // besides those of its changes
	sectorsOfChange = 3
)

// record is the sectors of a record. The first one has the kind at both of its ends and, behind the first, the number of sectors; the rest of it, and all others, have the fields.
type record []sector

const lastByte = SectorBytes - 1

// kind returns the kind of the record that begins in a sector. Of a sector that was torn while it was written only one end is there.
func (s sector) kind() byte {
	if s[0] != s[lastByte] {
		return noRecord
	}
	return s[0]
}

// recordOf returns the record of a kind with some fields.
func recordOf(kind byte, sectors int, fields []byte) record {
	out := make(record, sectors)
	out[0][0], out[0][1], out[0][lastByte] = kind, byte(sectors), kind
	fields = fields[copy(out[0][2:lastByte], fields):]
	for k := range out[1:] {
		fields = fields[copy(out[1+k][:], fields):]
	}
	return out
}

// firstRecord returns the record that seems to be at the beginning of some sectors.
func firstRecord(l []sector) record { return l[:min(max(1, int(l[0][1])), len(l))] }

// reader returns a reader of the fields.
func (r record) reader() *reader {
	out := append([]byte(nil), r[0][2:lastByte]...)
	for _, s := range r[1:] {
		out = append(out, s[:]...)
	}
	return &reader{out}
}

// recordOfArray returns the record of the schema of an array.
func recordOfArray(x api.Named) record {
	var w writer
	codeArray(&w, &x)
	return recordOf(arrayRecord, sectorsOfArray, w.bytes)
}

// recordOfToken returns the record of the token of a batch whose changes are kept as cells.
func recordOfToken(token string) record {
	var w writer
	w.text(&token)
	return recordOf(tokenRecord, sectorsOfToken, w.bytes)
}

// recordOfCell returns the record of an entry with one change, of whose batch there is another record, if it is one of a batch.
func recordOfCell(x entry) record {
	var w writer
	codeEntry(&w, &x)
	return recordOf(cellRecord, sectorsOfChange, w.bytes)
}

// recordOfBatch returns the record of a batch.
func recordOfBatch(x entry) record {
	var w writer
	codeEntry(&w, &x)
	return recordOf(batchRecord, sectorsOfBatch+sectorsOfChange*len(x.changes), w.bytes)
}
