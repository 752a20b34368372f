package system

import (
	"slices"
	"strconv"

	"tesseract/api"
	"tesseract/chunk"
	"tesseract/space"
	"tesseract/version"
)

func (s *System) create(r *request) (string, api.Errno) {
	return done, s.add(r.words[0], api.Array{Dims: r.dims, Attrs: r.attrs})
}

func (s *System) let(r *request) (string, api.Errno) {
	_, a, e := queried(s.database(), r.query)
	if e != api.OK {
		return "", e
	}
	return counted("cells", len(a.Cells)), s.add(r.words[0], a)
}

func (s *System) drop(r *request) (string, api.Errno) {
	k := slices.Index(s.arrays, r.arrays[0])
	s.arrays = slices.Delete(s.arrays, k, k+1)
	return done, api.OK
}

// lay gives an array a layout.
func (s *System) lay(r *request) (string, api.Errno) {
	a, l := r.arrays[0], r.layout
	l.Sides, l.Overlap = r.lists[0], r.lists[1]
	shown := a.shown()
	if e := space.Layout(shown.Dims, l); e != api.OK {
		return "", e
	}
	a.layout = l
	chunks, e := chunk.Split(shown, l)
	return counted("chunks", len(chunks)), e
}

func (s *System) set(r *request) (string, api.Errno) {
	a := r.arrays[0]
	v, e := a.commit(mainBranch, a.head(), r.changes)
	return counted("version", v), e
}

func (s *System) commit(r *request) (string, api.Errno) {
	v, e := r.arrays[0].commit(r.words[1], r.numbers[0], r.changes)
	return counted("version", v), e
}

func (s *System) branch(r *request) (string, api.Errno) {
	return done, r.arrays[0].tree.Branch(r.words[1], r.numbers[0])
}

// cut removes a branch.
func (s *System) cut(r *request) (string, api.Errno) {
	if r.words[1] == mainBranch {
		return "", api.ErrState
	}
	return done, r.arrays[0].tree.Drop(r.words[1])
}

func (s *System) merge(r *request) (string, api.Errno) {
	a := r.arrays[0]
	v, _, e := a.tree.Merge(r.words[1], r.words[2])
	a.follow()
	return counted("version", v), e
}

func (s *System) reclaim(r *request) (string, api.Errno) {
	a, keep := r.arrays[0], r.lists[0]
	if a.pin != 0 {
		keep = append(keep, a.pin)
	}
	n, e := a.tree.Reclaim(keep)
	return counted("reclaimed", n), e
}

func (s *System) heads(r *request) (string, api.Errno) {
	var out []string
	for _, h := range r.arrays[0].tree.Heads() {
		out = append(out, counted(h.Name, h.Version))
	}
	return lines(out), api.OK
}

func (s *System) log(r *request) (string, api.Errno) {
	tree := r.arrays[0].tree
	var out []string
	for _, v := range tree.Versions() {
		i, _ := tree.Info(v)
		parents := joined(i.Parents, "+")
		if parents == "" {
			parents = "-"
		}
		out = append(out, strconv.Itoa(v)+" "+parents+" "+joined([]int{i.Support, i.Changes}, " "))
	}
	return lines(out), api.OK
}

func (s *System) diff(r *request) (string, api.Errno) {
	l, e := r.arrays[0].tree.Diff(r.numbers[0], r.numbers[1])
	var out []string
	for _, c := range l {
		out = append(out, changeText(c))
	}
	return lines(out), e
}

func (s *System) size(r *request) (string, api.Errno) {
	return strconv.Itoa(r.arrays[0].tree.Size()), api.OK
}

func (s *System) show(r *request) (string, api.Errno) {
	return arrayText(r.arrays[0].shown()), api.OK
}

func (s *System) version(r *request) (string, api.Errno) {
	a, e := r.arrays[0].tree.Get(r.numbers[0])
	return arrayText(a), e
}

func (s *System) pin(r *request) (string, api.Errno) {
	a := r.arrays[0]
	if _, e := a.tree.Get(r.numbers[0]); e != api.OK {
		return "", e
	}
	a.pin = r.numbers[0]
	return done, api.OK
}

func (s *System) unpin(r *request) (string, api.Errno) {
	a := r.arrays[0]
	if a.pin == 0 {
		return "", api.ErrState
	}
	a.pin = 0
	return done, api.OK
}

func (s *System) pyramid(r *request) (string, api.Errno) {
	a := r.arrays[0]
	p, e := version.Build(a.newest(), r.lists[0], r.numbers[0], r.aggs)
	if e != api.OK {
		return "", e
	}
	a.pyramid = p
	return done, api.OK
}

func (s *System) level(r *request) (string, api.Errno) {
	p := r.arrays[0].pyramid
	if p == nil {
		return "", api.ErrState
	}
	a, e := p.Level(r.numbers[0])
	return arrayText(a), e
}
