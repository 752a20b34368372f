package ingest_test

import (
	"slices"
	"strings"

	"tesseract/api"
	"tesseract/ingest"
	"tesseract/space"
)

// value returns a value that fits a type; few are different, so that equal ones come often.
func (d *dice) value(typ int) api.Val {
	if d.next()%4 == 0 {
		return none(int64(pick(d, 1, 2, api.MaxReason)))
	}
	switch typ {
	case api.TBool:
		return api.Val{Kind: api.KBool, N: int64(d.from(0, 1))}
	case api.TText:
		return api.Val{Kind: api.KText, S: pick(d, "", "a", "it's", "~~~~~~~~~~~~~~~~")}
	case api.TRat:
		return pick(d, num(int64(d.from(-300, 300))), api.Val{Kind: api.KNum, N: 1, D: 2}, api.Val{Kind: api.KNum, N: 1 - api.MaxNum, D: api.MaxNum})
	}
	return num(pick(d, int64(d.from(-70, 70)), api.MaxNum, -api.MaxNum))
}

// schema returns an array without cells, with one to four short dimensions, some of them open or at a limit.
func (d *dice) schema() api.Array {
	var a api.Array
	for _, name := range []string{"x", "y", "z", "w"}[:d.from(1, 4)] {
		lo := d.from(-4, 3)
		x := dim(name, lo, lo+d.from(0, 3))
		switch d.next() % 6 {
		case 0:
			x.Hi = api.Open
		case 1:
			x = dim(name, api.MaxCoord-d.from(0, 3), pick(d, api.MaxCoord, api.Open))
		case 2:
			x = dim(name, -api.MaxCoord, -api.MaxCoord+d.from(0, 3))
		}
		a.Dims = append(a.Dims, x)
	}
	for k, name := range []string{"a", "b", "c", "d", "e", "f"}[:d.from(1, api.MaxAttrs)] {
		a.Attrs = append(a.Attrs, api.Attr{Name: name, Type: pick(d, api.TInt, api.TRat, 1+k%4)})
	}
	return a
}

// at returns coordinates of an array near its lower bounds, or its upper ones.
func (d *dice) at(a api.Array) []int {
	var out []int
	for _, x := range a.Dims {
		hi := min(x.Hi, api.MaxCoord)
		near := d.from(x.Lo, min(x.Lo+2, hi))
		out = append(out, pick(d, near, near, near, hi))
	}
	return out
}

// vals returns values of a cell of an array.
func (d *dice) vals(a api.Array) []api.Val {
	var out []api.Val
	for _, x := range a.Attrs {
		out = append(out, d.value(x.Type))
	}
	return out
}

// db returns a database with one to three arrays of few cells.
func (d *dice) db() api.DB {
	var db api.DB
	for _, name := range []string{"t", "b", "u"}[:d.from(1, 3)] {
		a := d.schema()
		for range d.from(0, 3) {
			at := d.at(a)
			if !slices.ContainsFunc(a.Cells, func(c api.Cell) bool { return slices.Equal(c.At, at) }) {
				a.Cells = append(a.Cells, api.Cell{At: at, Vals: d.vals(a)})
			}
		}
		slices.SortFunc(a.Cells, func(x, y api.Cell) int { return space.Compare(x.At, y.At) })
		db = append(db, api.Named{Name: name, Array: a})
	}
	return db
}

// token returns a token; few are different.
func (d *dice) token() string {
	return strings.Repeat(pick(d, "a", "b", "zz"), d.from(1, 3)) + pick(d, "", "_", "0", "9", "aaaaaa")
}

// batch returns a batch without an error.
func (d *dice) batch(db api.DB) ingest.Batch {
	x := pick(d, db...)
	b := ingest.Batch{Token: d.token(), Stamp: pick[int64](d, 0, 1, 2, 3, ingest.MaxStamp), Array: x.Name}
	for range pick(d, 1, 2, 3, 16) {
		c := api.Change{At: d.at(x.Array)}
		if d.next()%3 > 0 {
			c.Vals = d.vals(x.Array)
		}
		if !slices.ContainsFunc(b.Changes, func(x api.Change) bool { return slices.Equal(x.At, c.At) }) {
			b.Changes = append(b.Changes, c)
		}
	}
	return b
}

// spoiled returns a batch with an error or two.
func (d *dice) spoiled(db api.DB, b ingest.Batch) ingest.Batch {
	b.Changes = slices.Clone(b.Changes)
	for range d.from(1, 2) {
		switch d.next() % 5 {
		case 0:
			b.Token = pick(d, "", "A", "a-", "0a", "aaaaaaaaaaaaa", "_")
		case 1:
			b.Stamp = pick[int64](d, -1, ingest.MaxStamp+1, -1<<63, 1<<63-1)
		case 2:
			b.Array = pick(d, "", "T", "none", "uu")
		case 3:
			b.Changes = pick(d, nil, slices.Repeat(b.Changes, 17))
		case 4:
			d.spoilChange(db, &b)
		}
	}
	return b
}

// spoilChange puts a change with an error into a batch.
func (d *dice) spoilChange(db api.DB, b *ingest.Batch) {
	a, _ := space.Find(db, b.Array)
	if len(a.Dims) == 0 {
		return
	}
	c := api.Change{At: d.at(a), Vals: d.vals(a)}
	k := d.from(0, len(a.Dims)-1)
	v := d.from(0, len(c.Vals)-1)
	switch d.next() % 7 {
	case 0:
		c.At = c.At[1:]
	case 1:
		c.At = append(c.At, 0)
	case 2:
		c.Vals = append(c.Vals, num(1))
	case 3:
		c.At[k] = a.Dims[k].Lo - 1
	case 4:
		c.At[k] = min(a.Dims[k].Hi, api.MaxCoord) + 1
	case 5:
		c.Vals[v] = pick(d, api.Val{}, api.Val{Kind: api.KNum, N: 2, D: 4}, none(256), api.Val{Kind: 4}, api.Val{Kind: api.KNum, N: api.MaxNum + 1, D: 1})
	case 6:
		if len(b.Changes) > 0 {
			c.At = slices.Clone(pick(d, b.Changes...).At)
		}
	}
	b.Changes = slices.Insert(b.Changes, d.from(0, len(b.Changes)), c)
}
