package matrix

// graph is the graph of a symmetric matrix, of which nodes were perhaps eliminated.
type graph struct {
	nodes     [MaxSize]bool          // which there are
	neighbors [MaxSize][MaxSize]bool // of each node
}

// graphOf returns the graph of a symmetric matrix.
func graphOf(x numbers) *graph {
	g := &graph{}
	for i := range x.rows {
		g.nodes[i] = true
		for j := range x.cols {
			g.neighbors[i][j] = i != j && x.at(i, j).Sign() != 0
		}
	}
	return g
}

// degree returns how many neighbors a node has.
func (g *graph) degree(node int) int {
	n := 0
	for _, is := range g.neighbors[node] {
		if is {
			n++
		}
	}
	return n
}

// least returns the least one of the nodes with the fewest neighbors.
func (g *graph) least() int {
	best, fewest := 0, MaxSize
	for node, is := range g.nodes {
		if is && g.degree(node) < fewest {
			best, fewest = node, g.degree(node)
		}
	}
	return best
}

// eliminate eliminates a node, and returns how many edges this adds.
func (g *graph) eliminate(node int) int {
	near := g.neighbors[node]
	g.nodes[node] = false
	g.neighbors[node] = [MaxSize]bool{}
	added := 0
	for i, is := range near {
		if !is {
			continue
		}
		g.neighbors[i][node] = false
		for j := range i {
			if near[j] && !g.neighbors[i][j] {
				g.neighbors[i][j], g.neighbors[j][i] = true, true
				added++
			}
		}
	}
	return added
}

// isOrder reports whether a list has the numbers from 0 to n - 1, each once.
func isOrder(l []int, n int) bool {
	if len(l) != n {
		return false
	}
	var met [MaxSize]bool
	for _, node := range l {
		if node < 0 || node >= n || met[node] {
			return false
		}
		met[node] = true
	}
	return true
}
