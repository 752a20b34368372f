package algebra

import (
	"iter"
	"slices"

	"tesseract/api"
	"tesseract/exact"
)

// need is what a part of a scalar has if it is well-formed: whether its Val is used, and its Name, and how many Args it has.
type need struct {
	val  bool
	name bool
	args int
}

// needs are the needs of the operations, by their numbers.
var needs = [...]need{
	api.SConst:   {val: true},
	api.SAttr:    {name: true},
	api.SDim:     {name: true},
	api.SNot:     {args: 1},
	api.SNeg:     {args: 1},
	api.SFloor:   {args: 1},
	api.SMissing: {args: 1},
	api.SReason:  {args: 1},
	api.SAdd:     {args: 2},
	api.SSub:     {args: 2},
	api.SMul:     {args: 2},
	api.SDiv:     {args: 2},
	api.SEq:      {args: 2},
	api.SNe:      {args: 2},
	api.SLt:      {args: 2},
	api.SLe:      {args: 2},
	api.SGt:      {args: 2},
	api.SGe:      {args: 2},
	api.SAnd:     {args: 2},
	api.SOr:      {args: 2},
	api.SElse:    {args: 2},
	api.SIf:      {args: 3},
}

// parts yields the parts of a scalar, the Args of each one before itself, from the left to the right.
func parts(s api.Scalar) iter.Seq[api.Scalar] {
	return func(yield func(api.Scalar) bool) { yieldParts(s, yield) }
}

// yieldParts yields the parts of a scalar, and reports whether more of them are wanted.
func yieldParts(s api.Scalar, yield func(api.Scalar) bool) bool {
	for _, x := range s.Args {
		if !yieldParts(x, yield) {
			return false
		}
	}
	return yield(s)
}

// formError returns ErrDeep, ErrMany or ErrArg if a scalar is not well-formed.
func formError(s api.Scalar) api.Errno {
	if isDeep(s) {
		return api.ErrDeep
	}
	count := 0
	for range parts(s) {
		if count++; count > api.MaxNodes {
			return api.ErrMany
		}
	}
	for part := range parts(s) {
		if !isWellFormed(part) {
			return api.ErrArg
		}
	}
	return api.OK
}

// isDeep reports whether a scalar is too deep.
// It goes down level by level, as slices can share memory: then there may be too many parts to visit each of them, or no end of them.
func isDeep(s api.Scalar) bool {
	level := []*api.Scalar{&s}
	for range api.MaxDepth {
		level = below(level)
	}
	return len(level) > 0
}

// below returns the Args of some parts, those that lie at the same place in memory once.
func below(level []*api.Scalar) []*api.Scalar {
	met := map[*api.Scalar]bool{}
	var out []*api.Scalar
	for _, part := range level {
		for k := range part.Args {
			if x := &part.Args[k]; !met[x] {
				met[x] = true
				out = append(out, x)
			}
		}
	}
	return out
}

// isWellFormed reports whether a part is well-formed, whatever its Args are.
func isWellFormed(part api.Scalar) bool {
	if part.Op < api.SConst || part.Op > api.SIf {
		return false
	}
	n := needs[part.Op]
	if len(part.Args) != n.args || part.Name != "" && !n.name {
		return false
	}
	if n.val {
		return part.Val.Kind != api.KMissing && exact.Check(part.Val) == api.OK
	}
	return part.Val == api.Val{}
}

// folded returns what leaf computes for the parts of a well-formed scalar that have no Args, joined by join for the others; or their first error.
func folded[T any](s api.Scalar, leaf func(api.Scalar) (T, api.Errno), join func(op int, l []T) (T, api.Errno)) (T, api.Errno) {
	var waiting []T // the results of the parts that were yielded before the part of whose Args they are
	for part := range parts(s) {
		first := len(waiting) - len(part.Args)
		var x T
		var e api.Errno
		if len(part.Args) == 0 {
			x, e = leaf(part)
		} else {
			x, e = join(part.Op, waiting[first:])
		}
		if e != api.OK {
			var none T
			return none, e
		}
		waiting = append(waiting[:first], x)
	}
	return waiting[0], api.OK
}

// Uses returns the names that a scalar uses.
func Uses(s api.Scalar) []string {
	if formError(s) != api.OK {
		return nil
	}
	var out []string
	for part := range parts(s) {
		if needs[part.Op].name {
			out = append(out, part.Name)
		}
	}
	slices.Sort(out)
	return slices.Compact(out)
}

// Renamed returns a scalar in which a name is replaced.
func Renamed(s api.Scalar, from, to string) api.Scalar {
	if formError(s) != api.OK {
		return api.Scalar{}
	}
	rename := func(part api.Scalar) (api.Scalar, api.Errno) {
		out := api.Scalar{Op: part.Op, Name: part.Name, Val: part.Val}
		if needs[part.Op].name && part.Name == from {
			out.Name = to
		}
		return out, api.OK
	}
	out, _ := folded(s, rename, func(op int, l []api.Scalar) (api.Scalar, api.Errno) {
		return api.Scalar{Op: op, Args: slices.Clone(l)}, api.OK
	})
	return out
}

// SameScalar reports whether two scalars are well-formed, and equal.
func SameScalar(a, b api.Scalar) bool {
	return formError(a) == api.OK && formError(b) == api.OK && sameParts(a, b)
}

// sameParts reports whether two well-formed scalars are equal.
func sameParts(a, b api.Scalar) bool {
	return a.Op == b.Op && a.Name == b.Name && a.Val == b.Val && slices.EqualFunc(a.Args, b.Args, sameParts)
}
