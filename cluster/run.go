package cluster

import (
	"slices"
	"sync"

	"tesseract/api"
	"tesseract/engine"
	"tesseract/query"
	"tesseract/space"
)

// Run returns the result of an expression, computed by the workers in boxes with some sides.
func (c *Cluster) Run(e api.Expr, sides []int) (api.Array, Stats, api.Errno) {
	if !valid(c) {
		return api.Array{}, Stats{}, api.ErrNil
	}
	db := c.Schemas()
	schema, f := query.Schema(db, e)
	if f != api.OK {
		return api.Array{}, Stats{}, f
	}
	if f := sidesError(schema.Dims, sides); f != api.OK {
		return api.Array{}, Stats{}, f
	}
	if len(c.up()) == 0 {
		return api.Array{}, Stats{}, api.ErrDown
	}
	answers, stats := c.computed(treeOf(db, e), boxes(schema.Dims, sides))
	out, f := united(schema, answers)
	if f != api.OK {
		return api.Array{}, Stats{}, f
	}
	return out, stats, api.OK
}

// united returns the array of the answers for all boxes, in their order.
func united(schema api.Array, answers []answer) (api.Array, api.Errno) {
	first := api.OK
	var cells []api.Cell
	for _, a := range answers {
		first = firstOf(first, a.fault)
		cells = append(cells, a.cells...)
	}
	if first != api.OK {
		return api.Array{}, first
	}
	return space.Make(schema.Dims, schema.Attrs, cells)
}

// task is a box of a run, with its index.
type task struct {
	index int
	box   api.Box
}

// answer is what a worker computed for a box.
type answer struct {
	index int
	cells []api.Cell
	fault api.Errno
}

// total is what all workers of a run count together.
type total struct {
	mutex sync.Mutex
	stats Stats
}

// add adds what one worker counted.
func (t *total) add(s Stats) {
	t.mutex.Lock()
	defer t.mutex.Unlock()
	t.stats.Boxes += s.Boxes
	t.stats.Chunks += s.Chunks
	t.stats.Sent += s.Sent
}

// computed returns the answers of the workers that are up for some boxes, in the order of the boxes, and what they counted.
func (c *Cluster) computed(root *tree, l []api.Box) ([]answer, Stats) {
	done := make(chan answer, len(l)) // there is room for all answers, so that no worker has to wait
	var sum total
	var wait sync.WaitGroup
	var inputs []chan task
	for _, w := range c.up() {
		in := make(chan task, len(l))
		inputs = append(inputs, in)
		wait.Add(1)
		go func() {
			defer wait.Done()
			c.work(w, root, in, done, &sum)
		}()
	}
	for k, b := range l {
		inputs[k%len(inputs)] <- task{k, b}
	}
	for _, in := range inputs {
		close(in)
	}
	wait.Wait()
	close(done)
	out := make([]answer, len(l))
	for a := range done {
		out[a.index] = a
	}
	return out, sum.stats
}

// work computes the boxes that a worker gets, and sends the answers.
func (c *Cluster) work(worker int, root *tree, in <-chan task, done chan<- answer, sum *total) {
	r := c.readerFor(worker)
	for t := range in {
		a, f := r.value(root, t.box)
		done <- answer{t.index, a.Cells, f}
		r.stats.Boxes++
	}
	sum.add(r.stats)
}

// sidesError returns the error of the sides of a run.
func sidesError(d []api.Dim, sides []int) api.Errno {
	if len(sides) != len(d) {
		return api.ErrShape
	}
	if slices.ContainsFunc(sides, func(side int) bool { return side < 0 }) {
		return api.ErrArg
	}
	count := 1
	for k, side := range sides {
		count *= partsOf(d[k], side)
		if count > engine.MaxBoxes {
			return api.ErrMany
		}
	}
	return api.OK
}

// isDivided reports whether a dimension is divided into parts with a side.
func isDivided(d api.Dim, side int) bool { return d.Hi != api.Open && side >= 1 }

// partsOf returns how many parts a dimension is divided into.
func partsOf(d api.Dim, side int) int {
	if !isDivided(d, side) {
		return 1
	}
	return (d.Hi-d.Lo)/side + 1
}

// part returns the bounds of the part of a dimension with the index i.
func part(d api.Dim, side, i int) (lo, hi int) {
	if !isDivided(d, side) {
		return d.Lo, d.Hi
	}
	lo = d.Lo + i*side
	return lo, lo + min(side-1, d.Hi-lo)
}

// boxes returns the boxes of a run, sorted by their Lo.
func boxes(d []api.Dim, sides []int) []api.Box {
	out := []api.Box{{}}
	for k, x := range d {
		var longer []api.Box
		for _, b := range out {
			for i := range partsOf(x, sides[k]) {
				lo, hi := part(x, sides[k], i)
				longer = append(longer, api.Box{Lo: append(slices.Clone(b.Lo), lo), Hi: append(slices.Clone(b.Hi), hi)})
			}
		}
		out = longer
	}
	return out
}
