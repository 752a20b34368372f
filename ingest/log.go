package ingest

import (
	"maps"
	"slices"

	"tesseract/api"
	"tesseract/space"
)

// log returns the log of a store that is compacted.
func (c *contents) log() []sector {
	var out []sector
	for _, x := range c.arrays {
		out = append(out, recordOfArray(x)...)
	}
	for _, token := range c.tokens {
		out = append(out, recordOfToken(token)...)
	}
	for _, p := range slices.SortedFunc(maps.Keys(c.newest), place.compare) {
		x := c.newest[p]
		out = append(out, recordOfCell(entry{x.token, x.stamp, p.array, []api.Change{{At: c.at(p), Vals: x.vals}}})...)
	}
	return out
}

// replay returns the contents of which some sectors begin with the log, and how many sectors the log has; false if it is not one that a store wrote.
// A record was written by a store if it is found again from what it seems to say.
func replay(l []sector) (contents, int, bool) {
	c := contents{newest: map[place]state{}}
	end := 0
records:
	for end < len(l) {
		r := firstRecord(l[end:])
		var again record
		switch l[end].kind() {
		case noRecord:
			break records
		case arrayRecord:
			again = c.takeArray(r.reader())
		case tokenRecord:
			again = c.takeToken(r.reader())
		case cellRecord:
			again = c.takeCell(r.reader())
		case batchRecord:
			again = c.takeBatch(r.reader())
		}
		if !slices.Equal(again, r) {
			return contents{}, 0, false
		}
		end += len(r)
	}
	return c, end, len(c.arrays) > 0 && space.Database(c.database()) == api.OK
}

// takeArray, takeToken, takeCell and takeBatch add what a record says, and return the record that says it: nil if no record does.
// An array that is not valid is found out at the end: nothing in it can be changed.
func (c *contents) takeArray(r *reader) record {
	var x api.Named
	codeArray(r, &x)
	c.arrays = append(c.arrays, x)
	return recordOfArray(x)
}

func (c *contents) takeToken(r *reader) record {
	var token string
	r.text(&token)
	c.tokens = append(c.tokens, token)
	return recordOfToken(token)
}

func (c *contents) takeCell(r *reader) record {
	x, ok := c.readEntry(r)
	if !ok || len(x.changes) != 1 {
		return nil
	}
	c.change(x)
	return recordOfCell(x)
}

func (c *contents) takeBatch(r *reader) record {
	x, ok := c.readEntry(r)
	if !ok || len(x.changes) > MaxChanges {
		return nil
	}
	c.commit(x)
	return recordOfBatch(x)
}

// readEntry reads an entry, and reports whether its changes can be made.
func (c *contents) readEntry(r *reader) (entry, bool) {
	var x entry
	codeEntry(r, &x)
	ok := x.array >= 0 && x.array < len(c.arrays) && c.changesError(x.array, x.changes) == api.OK
	return x, ok
}
