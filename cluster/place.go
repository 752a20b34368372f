package cluster

import (
	"cmp"
	"slices"
	"strconv"
)

// Place returns the workers on which the replicas of a chunk belong.
func Place(name string, no []int, workers []int, replicas int) []int {
	scores := make([]uint64, len(workers))
	order := make([]int, len(workers))
	for k, w := range workers {
		scores[k] = score(name, no, w)
		order[k] = k
	}
	slices.SortStableFunc(order, func(a, b int) int { return cmp.Compare(scores[b], scores[a]) })
	var out []int
	for _, k := range order[:min(max(replicas, 0), len(order))] {
		out = append(out, workers[k])
	}
	return out
}

// score returns the score of a worker for a chunk.
func score(name string, no []int, worker int) uint64 {
	text := []byte(name)
	text = append(text, '/')
	for k, n := range no {
		if k > 0 {
			text = append(text, ',')
		}
		text = strconv.AppendInt(text, int64(n), 10)
	}
	text = append(text, '/')
	text = strconv.AppendInt(text, int64(worker), 10)
	h := uint64(14695981039346656037)
	for _, b := range text {
		h ^= uint64(b)
		h *= 1099511628211
	}
	return h ^ h>>32
}
