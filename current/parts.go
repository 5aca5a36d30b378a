package current

import (
	"slices"

	"rota/api"
	"rota/axioms"
	"rota/kinds"
	"rota/sets"
	"rota/wide"
)

// checkEnds of a net: are s and t vertices, and is there a way between them?
func checkEnds(g api.Graph, c []int, s, t int) api.Errno {
	if e := Check(g, c); e != api.OK {
		return e
	}
	if s < 0 || s >= g.N || t < 0 || t >= g.N {
		return api.ErrArg
	}
	if !sets.Within(1<<t, kinds.Reached(g, allEdges(g), s)) {
		return api.ErrNone
	}
	return api.OK
}

func allEdges(g api.Graph) int { return sets.Whole(len(g.Edges)) }

func hangsTogether(g api.Graph) bool { return kinds.Reached(g, allEdges(g), 0) == sets.Whole(g.N) }

// trees: the sets of as few edges as can be by which all hangs together that
// does so by all edges.
func trees(g api.Graph) []int {
	m, _ := kinds.Graphic(g)
	return m.Bases
}

// having: those of these sets that have the edge.
func having(l []int, edge int) []int {
	return slices.DeleteFunc(slices.Clone(l), func(s int) bool { return !sets.Within(edge, s) })
}

// sum over these sets of edges. Three ways of 3, 3 and 2 edges between the same
// two vertices have 21 trees of six edges, and that is the greatest sum: 21
// times 1000 to the power of 6.
func sum(c []int, l []int) wide.Int {
	var all wide.Int
	for _, s := range l {
		all = all.Plus(product(c, s))
	}
	return all
}

// product of what the edges of s conduct.
func product(c []int, s int) wide.Int {
	all := wide.Of(1)
	for i, n := range c {
		if sets.Within(1<<i, s) {
			all = all.Times(wide.Of(n))
		}
	}
	return all
}

// potentials: for each vertex what is to stand over the sum over all trees.
func potentials(g api.Graph, c []int, s, t int) []wide.Int {
	l := make([]wide.Int, g.N)
	for _, edges := range oneShort(g) {
		part := kinds.Reached(g, edges, s)
		if sets.Within(1<<t, part) {
			continue
		}
		more := product(c, edges)
		for v := range l {
			if sets.Within(1<<v, part) {
				l[v] = l[v].Plus(more)
			}
		}
	}
	return l
}

// oneShort: the sets of edges that lack one to be a tree, each once.
func oneShort(g api.Graph) []int {
	m, _ := kinds.Graphic(g)
	independents, _ := axioms.Independents(m)
	size := sets.Size(m.Bases[0]) - 1
	return slices.DeleteFunc(independents, func(s int) bool { return sets.Size(s) != size })
}
