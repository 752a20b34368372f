package cluster_test

import (
	"math"
	"slices"
	"testing"

	"tesseract/api"
	"tesseract/cluster"
)

// P11.1

// The greatest scores of sixteen workers, as a program in another language computed them.
func TestPlaceByHand(t *testing.T) {
	for _, x := range []struct {
		name string
		no   []int
		want []int
	}{
		{"t", list(0, 0), list(13, 12, 11, 10, 15, 14, 2, 3, 0, 1, 6, 7, 4, 5, 8, 9)},
		{"t", list(1, 0), list(3, 2, 1, 0, 7, 6, 5, 4, 9, 8, 10, 11, 12, 13, 14, 15)},
		{"t", list(0, -3), list(6, 7, 4, 5, 2, 3, 0, 1, 8, 9, 15, 14, 13, 12, 11, 10)},
		{"abcdefghijkl", list(2147483648, 7, 0, 12), list(1, 0, 3, 2, 5, 4, 7, 6, 9, 8, 12, 13, 10, 11, 14, 15)},
		{"u", list(5), list(13, 12, 11, 10, 15, 14, 8, 9, 2, 3, 0, 1, 6, 7, 4, 5)},
		{"t", nil, list(15, 14, 13, 12, 11, 10, 8, 9, 6, 7, 4, 5, 2, 3, 0, 1)},
	} {
		if got := cluster.Place(x.name, x.no, list(0, 1, 2, 3, 4, 5, 6, 7, 8, 9, 10, 11, 12, 13, 14, 15), 16); !slices.Equal(got, x.want) {
			t.Errorf("%s %v: %v, not %v", x.name, x.no, got, x.want)
		}
	}
}

func TestPlace(t *testing.T) {
	three := list(0, 1, 2)
	for _, x := range []struct {
		what     string
		workers  []int
		replicas int
		want     int
	}{
		{"no workers", nil, 2, 0}, {"no workers", list(), 4, 0}, {"no replicas", three, 0, 0}, // the examples of the chapter
		{"fewer than no replicas", three, -1, 0}, {"the least number of replicas", three, math.MinInt, 0},
		{"one", three, 1, 1}, {"two", three, 2, 2}, {"all", three, 3, 3}, {"more than there are", three, 4, 3}, {"many more", three, math.MaxInt, 3},
		{"equal workers", list(7, 7, 7), 2, 2}, {"equal workers among others", list(1, 7, 2, 7, 1), 4, 4},
		{"workers of no cluster", list(-1, 16, math.MinInt, math.MaxInt, 0), 5, 5},
	} {
		for _, no := range [][]int{{0, 0}, {1, 0}, nil, {}, {-3}, {math.MinInt, math.MaxInt, 0, 0, 5}} {
			for _, name := range names("t", "", "/", "T,1", "\xff\x00", "a name that is none") {
				got := cluster.Place(name, no, x.workers, x.replicas)
				if len(got) != x.want || !slices.Equal(got, specPlace(name, no, x.workers, x.replicas)) {
					t.Errorf("%s: %q %v: %v", x.what, name, no, got)
				}
			}
		}
	}
}

// Equal workers have the same score, so they follow each other, and each of them takes a place.
func TestPlaceEqual(t *testing.T) {
	all := cluster.Place("t", list(0, 0), list(3, 8, 3, 8, 3), 5)
	if !slices.Equal(all, list(3, 3, 3, 8, 8)) && !slices.Equal(all, list(8, 8, 3, 3, 3)) {
		t.Error(all)
	}
	if two := cluster.Place("t", list(0, 0), list(3, 8, 3, 8, 3), 2); !slices.Equal(two, all[:2]) {
		t.Error(two)
	}
}

// The lower half of a score decides where the higher halves are equal: without the last step the order of these two would be another one.
func TestPlaceLowerHalf(t *testing.T) {
	for _, workers := range [][]int{{973290, 1033102}, {1033102, 973290}} {
		if got := cluster.Place("t", list(0, 0), workers, 2); !slices.Equal(got, list(1033102, 973290)) {
			t.Error(got)
		}
	}
}

// Of equal scores the worker that stands first in the list comes first. (Both workers have the same score for this chunk.)
func TestPlaceEqualScores(t *testing.T) {
	const one, two = 1940137142181896135, 7438671182389228771
	no := list(0, 0)
	if specScore("t", no, one) != specScore("t", no, two) {
		t.Fatal("the scores are not equal")
	}
	d := dice(120)
	for range 200 {
		var workers []int
		for range d.from(2, 60) {
			workers = append(workers, pick(&d, one, two, one, two, d.from(0, 99)))
		}
		want := specPlace("t", no, workers, len(workers))
		for _, replicas := range []int{1, 2, 3, 7, 60} {
			if got := cluster.Place("t", no, workers, replicas); !slices.Equal(got, want[:min(replicas, len(want))]) {
				t.Fatalf("%v: %v, not %v", workers, got, want)
			}
		}
	}
	if got := cluster.Place("t", no, list(two, one), 1); !slices.Equal(got, list(two)) {
		t.Error(got)
	}
	if got := cluster.Place("t", no, list(one, two), 1); !slices.Equal(got, list(one)) {
		t.Error(got)
	}
}

func TestPlaceByModel(t *testing.T) {
	d := dice(111)
	for range 3000 {
		name := letters[d.from(0, 25):][:1] + letters[d.from(0, 25):]
		no := many(d.from(0, 4), func() int { return pick(&d, 0, 1, d.from(0, 400), -d.from(0, 9), 1<<31) })
		workers := many(d.from(0, 16), func() int { return pick(&d, d.from(0, 15), d.from(-99, 99)) })
		replicas := d.from(-1, 6)
		if got, want := cluster.Place(name, no, workers, replicas), specPlace(name, no, workers, replicas); !slices.Equal(got, want) {
			t.Fatalf("%s %v %v %d: %v, not %v", name, no, workers, replicas, got, want)
		}
	}
}

// without returns a list without an element.
func without(l []int, x int) []int {
	return slices.DeleteFunc(slices.Clone(l), func(y int) bool { return y == x })
}

// P11.10

func TestPlacement(t *testing.T) {
	d := dice(112)
	same, replaced, more, kept := 0, 0, 0, 0
	for range 4000 {
		no := many(d.from(1, 4), func() int { return d.from(0, 50) })
		all := shuffled(&d, list(0, 1, 2, 3, 4, 5, 6, 7, 8, 9, 10, 11, 12, 13, 14, 15))[:d.from(1, 16)]
		k := d.from(0, len(all)-1)
		worker, fewer := all[k], slices.Concat(all[:k], all[k+1:])
		replicas := d.from(1, 4)
		before, after := cluster.Place("t", no, fewer, replicas), cluster.Place("t", no, all, replicas)
		slices.Sort(before)
		slices.Sort(after)
		switch {
		case slices.Equal(before, after):
			same++
		case len(before) < replicas && slices.Equal(before, without(after, worker)) && len(after) == len(before)+1:
			more++
		case len(before) == replicas && len(after) == replicas && !slices.Contains(before, worker) && slices.Contains(after, worker) && !slices.ContainsFunc(without(after, worker), func(x int) bool { return !slices.Contains(before, x) }):
			replaced++
		default:
			t.Fatalf("%v: %v, and with %d %v", no, before, worker, after)
		}
		if !slices.Contains(after, worker) {
			kept++ // it is removed again, which changes nothing
			if !slices.Equal(before, after) {
				t.Fatal(before, after)
			}
		}
	}
	if same < 500 || replaced < 500 || more < 100 || kept < 500 {
		t.Error(same, replaced, more, kept)
	}
}

// A worker that fails or joins changes only what belongs on it.
func TestPlacementOfClusters(t *testing.T) {
	c := opened(t, 6, 2)
	ok(t, c.Put("l", line(200), grid(5, 0)))
	numbers, _ := c.Chunks("l")
	holders := func() [][]int {
		var out [][]int
		for _, no := range numbers {
			h, e := c.Holders("l", no)
			ok(t, e)
			out = append(out, h)
		}
		return out
	}
	moved := func(before [][]int, worker int, named string) {
		t.Helper()
		for k, h := range holders() {
			if !slices.Contains(before[k], worker) && !slices.Contains(h, worker) && !slices.Equal(before[k], h) {
				t.Fatalf("%s: the chunk %v was held by %v, and is by %v", named, numbers[k], before[k], h)
			}
		}
	}
	before := holders()
	n := c.Workers()[2].Chunks
	downed(t, c, 2)
	if copies, lost, e := c.Repair(); copies != n || lost != 0 || e != api.OK || n == 0 {
		t.Error(copies, lost, e, n)
	}
	moved(before, 2, "a failure")
	before = holders()
	if w, e := c.Join(); w != 6 || e != api.OK {
		t.Fatal(w, e)
	}
	if copies, lost, e := c.Repair(); copies != c.Workers()[6].Chunks || copies == 0 || lost != 0 || e != api.OK {
		t.Error(copies, lost, e)
	}
	moved(before, 6, "a new worker")
}
