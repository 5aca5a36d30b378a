package links_test

import (
	"slices"
	"testing"

	"rota/api"
	"rota/axioms"
	"rota/kinds"
	"rota/minors"
	"rota/probe"
)

// gammoidOf: all sets of as many vertices are tried, by the words of P40.
func gammoidOf(g api.Graph, to int) api.Matroid {
	m := api.Matroid{N: g.N}
	many := len(probe.Elements(to))
	for s := range 1 << g.N {
		if len(probe.Elements(s)) == many && mostOf(waysOf(given{g, s, to}), 0) == many {
			m.Bases = append(m.Bases, s)
		}
	}
	return m
}

// setsBy the words of P40.
func setsBy(g api.Graph, to int) []int {
	var l []int
	for v := range g.N {
		if to>>v&1 == 1 {
			continue
		}
		s := 0
		for w := range g.N {
			if w == v || leads(g, v, w) {
				s += 1 << w
			}
		}
		l = append(l, s)
	}
	return l
}

// TestGammoid holds both calls to the words of P40. By Mason the Gammoid is a
// matroid, with to as one basis; by Ingleton and Piff it is the Dual of the
// Transversal of the Sets.
func TestGammoid(t *testing.T) {
	for _, g := range probe.Graphs() {
		for to := range 1 << g.N {
			m, l := gammoidOf(g, to), setsBy(g, to)
			hold(t, gammoid(), g, 0, to, answer{m: m})
			hold(t, setsOf(), g, 0, to, answer{l: l})
			if axioms.Check(m) != api.OK || !slices.Contains(m.Bases, to) {
				t.Errorf("%v, %d: %v is no matroid with that basis", g, to, m)
			}
			crossing, _ := kinds.Transversal(g.N, l)
			if d, e := minors.Dual(m); e != api.OK || !probe.Equal(d, crossing) {
				t.Errorf("%v, %d: the Dual is %v, the Transversal %v", g, to, d, crossing)
			}
		}
	}
}

// TestGammoidByHand holds answers that were found by hand.
func TestGammoidByHand(t *testing.T) {
	of := func(n int, bases ...int) answer { return answer{m: api.Matroid{N: n, Bases: bases}} }
	for _, x := range []struct {
		g    api.Graph
		to   int
		m    answer
		sets []int
	}{
		{probe.GraphOf(1), 0, of(1, 0), []int{1}},
		{probe.GraphOf(1, 0, 0), 0, of(1, 0), []int{1}},
		{probe.GraphOf(1), 1, of(1, 1), nil},
		{probe.GraphOf(7), 0, of(7, 0), []int{1, 2, 4, 8, 16, 32, 64}},
		{probe.GraphOf(7), 127, of(7, 127), nil},
		{probe.GraphOf(7), 80, of(7, 80), []int{1, 2, 4, 8, 32}},
		{probe.GraphOf(2, 0, 1), 1, of(2, 1), []int{2}},
		{probe.GraphOf(2, 0, 1), 2, of(2, 1, 2), []int{3}},
		{probe.GraphOf(2, 0, 1, 0, 1), 2, of(2, 1, 2), []int{3}},
		{probe.GraphOf(3, 0, 1, 1, 2), 2, of(3, 1, 2), []int{3, 4}},
		{probe.GraphOf(3, 0, 1, 1, 2), 4, of(3, 1, 2, 4), []int{3, 6}},
		// 0 leads to 2 by 1 alone.
		{probe.GraphOf(3, 0, 1, 1, 2), 6, of(3, 5, 6), []int{3}},
		{probe.GraphOf(3, 2, 0, 2, 1), 3, of(3, 3, 5, 6), []int{7}},
		// From 0 and 2 there is one way only.
		{probe.GraphOf(4, 3, 1, 3, 0, 2, 0), 3, of(4, 3, 6, 9, 10, 12), []int{5, 11}},
		// 0, 1 and 2 lead to 5, 3 and 4 to 6: one of either kind.
		{probe.GraphOf(7, 0, 2, 1, 2, 2, 5, 3, 6, 4, 6), 96, of(7, 9, 10, 12, 17, 18, 20, 40, 48, 65, 66, 68, 96), []int{5, 6, 36, 72, 80}},
		// From all pairs ways lead to the first two.
		{probe.GraphOf(4, 2, 0, 2, 1, 3, 0, 3, 1), 3, of(4, 3, 5, 6, 9, 10, 12), []int{7, 11}},
	} {
		hold(t, gammoid(), x.g, 0, x.to, x.m)
		hold(t, setsOf(), x.g, 0, x.to, answer{l: x.sets})
	}
}
