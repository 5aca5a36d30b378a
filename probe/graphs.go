package probe

import (
	"math"

	"rota/api"
)

// Jumps are numbers that jump about, the same ones whenever a program runs.
type Jumps struct{ at uint64 }

// Next number, from 0 to n - 1.
func (j *Jumps) Next(n int) int {
	j.at = j.at*6364136223846793005 + 1442695040888963407
	return int(j.at >> 33 % uint64(n))
}

// lists of k numbers from 0 to n - 1: all of them.
func lists(n, k int) [][]int {
	all := [][]int{nil}
	for range k {
		var longer [][]int
		for _, l := range all {
			for v := range n {
				longer = append(longer, append(l[:len(l):len(l)], v))
			}
		}
		all = longer
	}
	return all
}

// SmallGraphs: all of up to three vertices and three edges.
func SmallGraphs() []api.Graph {
	var all []api.Graph
	for n := 1; n <= 3; n++ {
		for k := range 4 {
			for _, l := range lists(n*n, k) {
				g := api.Graph{N: n}
				for _, v := range l {
					g.Edges = append(g.Edges, api.Edge{A: v / n, B: v % n})
				}
				all = append(all, g)
			}
		}
	}
	return all
}

// GraphOf n vertices: the edges are between the first and the second number,
// the third and the fourth, and so on.
func GraphOf(n int, ends ...int) api.Graph {
	g := api.Graph{N: n}
	for i := 0; i+1 < len(ends); i += 2 {
		g.Edges = append(g.Edges, api.Edge{A: ends[i], B: ends[i+1]})
	}
	return g
}

// Graphs: all that are small, and some up to the largest.
func Graphs() []api.Graph {
	all := append(SmallGraphs(),
		GraphOf(4, 0, 1, 0, 2, 0, 3, 1, 2, 1, 3, 2, 3),
		GraphOf(7, 0, 1, 1, 2, 2, 3, 3, 4, 4, 5, 5, 6, 6, 0),
		GraphOf(7, 0, 1, 2, 1, 2, 3, 4, 3, 4, 5, 6, 5, 6, 0, 0, 3),
		GraphOf(7, 6, 5, 6, 4, 6, 3, 6, 2, 6, 1, 6, 0),
		GraphOf(7, 0, 1, 1, 2, 2, 0, 4, 5, 5, 6, 6, 4, 3, 3, 4, 6),
		GraphOf(5, 0, 1, 1, 2, 2, 3, 3, 0, 4, 0, 4, 1, 4, 2, 4, 3),
		GraphOf(5, 0, 2, 0, 3, 0, 4, 1, 2, 1, 3, 1, 4),
		GraphOf(1, 0, 0, 0, 0, 0, 0, 0, 0, 0, 0, 0, 0, 0, 0, 0, 0),
		GraphOf(2, 0, 1, 1, 0, 0, 1, 1, 0, 0, 1, 1, 0, 0, 1, 1, 0),
		GraphOf(7),
	)
	var jumps Jumps
	for i := range 200 {
		g := api.Graph{N: 2 + i%6}
		for range 4 + i%5 {
			g.Edges = append(g.Edges, api.Edge{A: jumps.Next(g.N), B: jumps.Next(g.N)})
		}
		all = append(all, g)
	}
	return all
}

// Part of g: the vertices that hang together with v by the edges of s.
func Part(g api.Graph, s, v int) int {
	found := 0
	var reach func(v int)
	reach = func(v int) {
		if found>>v&1 == 1 {
			return
		}
		found |= 1 << v
		for _, i := range Elements(s) {
			switch v {
			case g.Edges[i].A:
				reach(g.Edges[i].B)
			case g.Edges[i].B:
				reach(g.Edges[i].A)
			}
		}
	}
	reach(v)
	return found
}

// WrongGraphs are none.
func WrongGraphs() []api.Graph {
	wrong := []api.Graph{
		{},
		GraphOf(-1), GraphOf(0), GraphOf(8), GraphOf(math.MinInt), GraphOf(math.MaxInt),
		GraphOf(0, 0, 0), GraphOf(8, 0, 7), GraphOf(1, 0, 1), GraphOf(1, 1, 0),
		GraphOf(3, 0, 1, 1, 2, 2, 3), GraphOf(3, 0, 1, 1, 2, 3, 2),
		GraphOf(3, 0, -1), GraphOf(3, -1, 0), GraphOf(7, 6, 7), GraphOf(7, 7, 6),
		GraphOf(3, math.MinInt, 0), GraphOf(3, 0, math.MaxInt), GraphOf(3, 0, 1<<32),
		{N: 7, Edges: make([]api.Edge, 9)},
		{N: 1, Edges: make([]api.Edge, 1<<16)},
	}
	return wrong
}
