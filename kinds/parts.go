package kinds

import (
	"slices"

	"rota/api"
	"rota/sets"
)

// isBelow: is v one of the numbers 0 to n - 1?
func isBelow(v, n int) bool { return v >= 0 && v < n }

func areBelow(l []int, n int) bool {
	for _, v := range l {
		if !isBelow(v, n) {
			return false
		}
	}
	return true
}

// isModulus: can a matrix be reckoned modulo p?
func isModulus(p int) bool { return p == 2 || p == 3 || p == 5 || p == 7 }

// hasRing: have the edges of s one? They have, if one of them is between
// vertices that hang together by those ahead of it.
func hasRing(g api.Graph, s int) bool {
	var part [api.MaxVertex]int // vertices of one part have the same number
	for v := range part {
		part[v] = v
	}
	for i, edge := range g.Edges {
		if s>>i&1 == 0 {
			continue
		}
		a, b := part[edge.A], part[edge.B]
		if a == b {
			return true
		}
		for v := range part {
			if part[v] == b {
				part[v] = a
			}
		}
	}
	return false
}

// Reached: the vertices that hang together with v by these edges, in whichever
// direction they are. It is for the layers below, and takes what it is handed
// as it is.
func Reached(g api.Graph, edges, v int) int {
	found := 1 << v
	for range g.N {
		for i, edge := range g.Edges {
			ends := 1<<edge.A | 1<<edge.B
			if sets.Within(1<<i, edges) && ends&found != 0 {
				found |= ends
			}
		}
	}
	return found
}

// column of a matrix; in rows that the matrix has not it is 0.
type column [api.MaxRows]int

func columns(x api.Matrix) []column {
	l := make([]column, x.Cols)
	for i, row := range x.Rows {
		for j, v := range row {
			l[j][i] = v
		}
	}
	return l
}

// picked: the columns whose places are in s.
func picked(all []column, s int) []column {
	var l []column
	for i, c := range all {
		if s>>i&1 == 1 {
			l = append(l, c)
		}
	}
	return l
}

// areFree: is no sum of multiples of these columns nought, modulo p, but that
// of noughts? They are used up: each clears, in those behind it, the place at
// which it is not 0 itself, and none may be cleared to nought.
func areFree(p int, l []column) bool {
	for i, c := range l {
		at := slices.IndexFunc(c[:], func(v int) bool { return v != 0 })
		if at < 0 {
			return false
		}
		for j := i + 1; j < len(l); j++ {
			l[j] = cleared(p, l[j], c, at)
		}
	}
	return true
}

// cleared: a multiple of c, and one of by, which is not 0 at a place, added
// such that 0 is there. The multiple of c is never that of 0, so nothing is
// lost; and nothing needs to be divided.
func cleared(p int, c, by column, at int) column {
	times, add := by[at], p-c[at]
	for i := range c {
		c[i] = (c[i]*times + by[i]*add) % p
	}
	return c
}

// canBeGiven: can each element of s be given an entry of l that has it, none
// to two? By Hall's theorem all can, if of no elements too few entries have
// some.
func canBeGiven(l []int, s int) bool {
	for some := s; some != 0; some = (some - 1) & s {
		if meetings(l, some) < sets.Size(some) {
			return false
		}
	}
	return true
}

// meetings: how many sets of l have an element of s.
func meetings(l []int, s int) int {
	n := 0
	for _, o := range l {
		if o&s != 0 {
			n++
		}
	}
	return n
}

// crossesOne: has s elements together with a set of l, neither being within
// the other?
func crossesOne(l []int, s int) bool {
	for _, o := range l {
		if s&o != 0 && !sets.Within(s, o) && !sets.Within(o, s) {
			return true
		}
	}
	return false
}

// keepsTo: has s of each set of l at most its number of elements?
func keepsTo(l, most []int, s int) bool {
	for i, o := range l {
		if sets.Size(s&o) > most[i] {
			return false
		}
	}
	return true
}

// allBut: the matroid whose bases are all sets of rank elements of n, but some.
func allBut(n, rank int, but []int) api.Matroid {
	bases := sets.Sieve(n, func(s int) bool { return sets.Size(s) == rank && !slices.Contains(but, s) })
	return api.Matroid{N: n, Bases: bases}
}

// fanoLines: the first of the seven lines of Fano's plane, as many as are
// wanted.
func fanoLines(many int) []int {
	var l []int
	for i := range many {
		l = append(l, 1<<i|1<<((i+1)%7)|1<<((i+3)%7))
	}
	return l
}

// vamosCircuits: those circuits of Vamos' matroid that have four elements.
func vamosCircuits() []int {
	return []int{0b00001111, 0b00110011, 0b00111100, 0b11000011, 0b11001100}
}

// fourVertices, and an edge between any two.
func fourVertices() api.Graph {
	return api.Graph{N: 4, Edges: []api.Edge{
		{A: 0, B: 1}, {A: 0, B: 2}, {A: 0, B: 3}, {A: 1, B: 2}, {A: 1, B: 3}, {A: 2, B: 3},
	}}
}
