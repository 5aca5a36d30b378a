package links

import (
	"rota/api"
	"rota/kinds"
	"rota/sets"
)

// check a graph, and sets of its vertices.
func check(g api.Graph, from, to int) api.Errno {
	if e := kinds.CheckGraph(g); e != api.OK {
		return e
	}
	if e := sets.Check(g.N, from); e != api.OK {
		return e
	}
	return sets.Check(g.N, to)
}

// has s the vertex v?
func has(s, v int) bool { return s>>v&1 == 1 }

// without the vertices of a way.
func without(s int, way []int) int {
	for _, v := range way {
		s &^= 1 << v
	}
	return s
}

// nexts: for each vertex those to which edges lead from it.
func nexts(g api.Graph) []int {
	next := make([]int, g.N)
	for _, edge := range g.Edges {
		next[edge.A] |= 1 << edge.B
	}
	return next
}

// reached: where ways from these vertices lead, among those that are left.
func reached(next []int, left, from int) int {
	found := from & left
	for range next {
		for v, s := range next {
			if has(found, v) {
				found |= s & left
			}
		}
	}
	return found
}

// cut: of the sets of fewest vertices that have one of each way, among those
// that are left, the least.
func cut(next []int, left, from, to int) int {
	fewest := sets.Whole(len(next))
	for s := range fewest {
		if sets.Size(s) < sets.Size(fewest) && reached(next, left&^s, from)&to == 0 {
			fewest = s
		}
	}
	return fewest
}

// areLinked: do ways that keep apart lead from all of these vertices, among
// those that are left? By Menger a cut then has as many. From a vertex that is
// not left there is no way.
func areLinked(next []int, left, from, to int) bool {
	return sets.Size(cut(next, left, from, to)) == sets.Size(from)
}

// firstWay from v that leaves ways to the vertices behind, if there is one. It
// ends where it can: the longer way is greater, and leaves fewer vertices.
func firstWay(next []int, left, v, behind, to int) []int {
	way := []int{v}
	for !has(to, v) {
		left &^= 1 << v
		v = onward(next, left, next[v]&^behind, behind, to)
		if v < 0 {
			break
		}
		way = append(way, v)
	}
	return way
}

// onward: the least vertex of these from which, beside those behind, ways can
// lead; -1, if there is none.
func onward(next []int, left, these, behind, to int) int {
	for v := range next {
		if has(these, v) && areLinked(next, left, behind|1<<v, to) {
			return v
		}
	}
	return -1
}
