package ingest

import (
	"cmp"
	"slices"

	"tesseract/api"
	"tesseract/space"
)

// entry is changes of an array that come from one batch, or from the database at the beginning.
type entry struct {
	token   string
	stamp   int64
	array   int // its index
	changes []api.Change
}

// beginning is the stamp of cells that a database had at the beginning: they are older than all changes.
const beginning = -1

// place is coordinates of an array, with zeros behind them.
type place struct {
	array int
	at    [api.MaxDims]int
}

// compare says which place comes first.
func (p place) compare(q place) int {
	return cmp.Or(cmp.Compare(p.array, q.array), space.Compare(p.at[:], q.at[:]))
}

// state is the values that a change gives to a place, or none if it makes it empty, and which batch it comes from.
type state struct {
	token string
	stamp int64
	vals  []api.Val
}

// isNewer reports whether the change is newer than another one.
func (s state) isNewer(than state) bool {
	return cmp.Or(cmp.Compare(s.stamp, than.stamp), cmp.Compare(s.token, than.token)) > 0
}

// contents is what a store keeps.
type contents struct {
	arrays []api.Named // without cells
	tokens []string    // of all batches, in the order in which they were committed
	newest map[place]state
}

// contentsOf returns those of a store with a database at the beginning.
func contentsOf(db api.DB) contents {
	c := contents{newest: map[place]state{}}
	for k, x := range db {
		c.arrays = append(c.arrays, api.Named{Name: x.Name, Array: api.Array{Dims: slices.Clone(x.Array.Dims), Attrs: slices.Clone(x.Array.Attrs)}})
		for _, cell := range x.Array.Cells {
			c.change(entry{stamp: beginning, array: k, changes: copied([]api.Change{api.Change(cell)})})
		}
	}
	return c
}

// copied returns changes in new memory.
func copied(l []api.Change) []api.Change {
	out := make([]api.Change, len(l))
	for k, x := range l {
		out[k] = api.Change{At: slices.Clone(x.At), Vals: slices.Clone(x.Vals)}
	}
	return out
}

// entryOf returns the entry of a batch, or the error of the batch.
func (c *contents) entryOf(b Batch) (entry, api.Errno) {
	if !space.Name(b.Token) {
		return entry{}, api.ErrName
	}
	if b.Stamp < 0 || b.Stamp > MaxStamp {
		return entry{}, api.ErrRange
	}
	array := slices.IndexFunc(c.arrays, func(x api.Named) bool { return x.Name == b.Array })
	if array < 0 {
		return entry{}, api.ErrNone
	}
	if len(b.Changes) == 0 || len(b.Changes) > MaxChanges {
		return entry{}, api.ErrMany
	}
	if e := c.changesError(array, b.Changes); e != api.OK {
		return entry{}, e
	}
	return entry{b.Token, b.Stamp, array, copied(b.Changes)}, api.OK
}

// changesError returns the error of changes of an array. It is that of cells, if coordinates that become empty have any values that fit.
func (c *contents) changesError(array int, l []api.Change) api.Errno {
	x := c.arrays[array].Array
	fitting := slices.Repeat([]api.Val{{Kind: api.KMissing, N: api.Unknown}}, len(x.Attrs))
	cells := make([]api.Cell, len(l))
	for k, change := range l {
		cells[k] = api.Cell(change)
		if len(change.Vals) == 0 {
			cells[k].Vals = fitting
		}
	}
	_, e := space.Make(x.Dims, x.Attrs, cells)
	return e
}

// commit adds a batch.
func (c *contents) commit(x entry) {
	c.tokens = append(c.tokens, x.token)
	c.change(x)
}

// change makes changes, as far as they are newer than those that were made. It keeps their values.
func (c *contents) change(x entry) {
	for _, change := range x.changes {
		p := place{array: x.array}
		copy(p.at[:], change.At)
		now := state{x.token, x.stamp, change.Vals}
		if before, have := c.newest[p]; !have || now.isNewer(before) {
			c.newest[p] = now
		}
	}
}

// database returns the database, in new memory.
func (c *contents) database() api.DB {
	cells := make([][]api.Cell, len(c.arrays)) // in the order of the map, until Make sorts them
	for p, x := range c.newest {
		if len(x.vals) > 0 {
			cells[p.array] = append(cells[p.array], api.Cell{At: c.at(p), Vals: x.vals})
		}
	}
	out := make(api.DB, len(c.arrays))
	for k, x := range c.arrays {
		a, _ := space.Make(x.Array.Dims, x.Array.Attrs, cells[k])
		out[k] = api.Named{Name: x.Name, Array: a}
	}
	return out
}

// at returns the coordinates of a place.
func (c *contents) at(p place) []int { return slices.Clone(p.at[:len(c.arrays[p.array].Array.Dims)]) }
