package tutte_test

import (
	"slices"
	"testing"

	"rota/api"
	"rota/probe"
	"rota/tutte"
)

// partsOf g: in how many its vertices hang together by the edges of s.
func partsOf(g api.Graph, s int) int {
	parts, reached := 0, 0
	for v := range g.N {
		if reached>>v&1 == 0 {
			parts++
			reached |= probe.Part(g, s, v)
		}
	}
	return parts
}

// colourings of g with q colours, if the first vertices have these already.
func colourings(g api.Graph, q int, have []int) int64 {
	v := len(have)
	if v == g.N {
		return 1
	}
	var ways int64
	for colour := range q {
		now := append(have[:v:v], colour)
		clash := slices.ContainsFunc(g.Edges, func(e api.Edge) bool {
			return max(e.A, e.B) == v && now[e.A] == now[e.B]
		})
		if !clash {
			ways += colourings(g, q, now)
		}
	}
	return ways
}

// TestChromatic: numbers at as many places as there are coefficients leave no
// other polynomial.
func TestChromatic(t *testing.T) {
	for _, g := range probe.Graphs() {
		got, e := tutte.Chromatic(g)
		if e != api.OK || len(got) != g.N+1 {
			t.Errorf("Chromatic(%v) = %v, %d", g, got, e)
			continue
		}
		for q := range g.N + 1 {
			if want := colourings(g, q, nil); valueOf(got, q) != want {
				t.Errorf("Chromatic(%v) = %v, at %d it is not %d", g, got, q, want)
			}
		}
	}
}

// flows of g modulo q: how often each list of sums at the vertices comes about
// as the edges have their numbers one by one, and how often that of noughts
// does in the end.
func flows(g api.Graph, q int) int64 {
	type sums [api.MaxVertex]int
	ways := map[sums]int64{{}: 1}
	for _, edge := range g.Edges {
		next := map[sums]int64{}
		for at, n := range ways {
			for v := 1; v < q; v++ {
				now := at
				now[edge.A] = (now[edge.A] + q - v) % q
				now[edge.B] = (now[edge.B] + v) % q
				next[now] += n
			}
		}
		ways = next
	}
	return ways[sums{}]
}

// TestFlow: as TestChromatic.
func TestFlow(t *testing.T) {
	for _, g := range probe.Graphs() {
		got, e := tutte.Flow(g)
		degree := len(g.Edges) - g.N + partsOf(g, 1<<len(g.Edges)-1)
		if e != api.OK || len(got) != degree+1 {
			t.Errorf("Flow(%v) = %v, %d, want the degree %d", g, got, e, degree)
			continue
		}
		for q := 1; q <= degree+1; q++ {
			if want := flows(g, q); valueOf(got, q) != want {
				t.Errorf("Flow(%v) = %v, at %d it is not %d", g, got, q, want)
			}
		}
	}
}

// isAcyclic: does no way lead from a vertex back to it, if the edges of s have
// their direction, and the others the opposite one?
func isAcyclic(g api.Graph, s int) bool {
	var leads [api.MaxVertex][api.MaxVertex]bool
	for i, edge := range g.Edges {
		if s>>i&1 == 1 {
			leads[edge.A][edge.B] = true
		} else {
			leads[edge.B][edge.A] = true
		}
	}
	for by := range g.N {
		for a := range g.N {
			for b := range g.N {
				leads[a][b] = leads[a][b] || leads[a][by] && leads[by][b]
			}
		}
	}
	for v := range g.N {
		if leads[v][v] {
			return false
		}
	}
	return true
}

func TestAcyclic(t *testing.T) {
	for _, g := range probe.Graphs() {
		want := 0
		for s := range 1 << len(g.Edges) {
			if isAcyclic(g, s) {
				want++
			}
		}
		if got, e := tutte.Acyclic(g); e != api.OK || got != want {
			t.Errorf("Acyclic(%v) = %d, %d, want %d", g, got, e, want)
		}
	}
}

// TestStanley: the polynomial of the colours has that number at -1, without
// its sign.
func TestStanley(t *testing.T) {
	for _, g := range probe.Graphs() {
		colours, _ := tutte.Chromatic(g)
		if got, e := tutte.Acyclic(g); e != api.OK || int64(got) != sign(g.N)*valueOf(colours, -1) {
			t.Errorf("Acyclic(%v) = %d, %d, but the colours are %v", g, got, e, colours)
		}
	}
}

// TestGraphsEdges holds answers that were found by hand.
func TestGraphsEdges(t *testing.T) {
	for _, x := range []struct {
		g             api.Graph
		colours, flow []int64
		ways          int
	}{
		{probe.GraphOf(1), []int64{0, 1}, []int64{1}, 1},
		{probe.GraphOf(7), []int64{0, 0, 0, 0, 0, 0, 0, 1}, []int64{1}, 1},
		{probe.GraphOf(1, 0, 0), []int64{0, 0}, []int64{-1, 1}, 0},
		{probe.GraphOf(2, 0, 1), []int64{0, -1, 1}, []int64{0}, 2},
		{probe.GraphOf(2, 1, 0, 0, 1), []int64{0, -1, 1}, []int64{-1, 1}, 2},
		{probe.GraphOf(2, 0, 1, 0, 1, 1, 0), []int64{0, -1, 1}, []int64{2, -3, 1}, 2},
		// An edge by which alone two parts hang together, and a loop.
		{probe.GraphOf(2, 0, 1, 1, 1), []int64{0, 0, 0}, []int64{0, 0}, 0},
		{probe.GraphOf(3, 0, 1, 1, 2, 2, 0), []int64{0, 2, -3, 1}, []int64{-1, 1}, 6},
		{probe.GraphOf(4, 0, 1, 2, 3), []int64{0, 0, 1, -2, 1}, []int64{0}, 4},
		{
			probe.GraphOf(4, 0, 1, 0, 2, 0, 3, 1, 2, 1, 3, 2, 3),
			[]int64{0, -6, 11, -6, 1}, []int64{-6, 11, -6, 1}, 24,
		},
		// Two triangles apart: both count by themselves.
		{
			probe.GraphOf(6, 0, 1, 1, 2, 2, 0, 3, 4, 4, 5, 5, 3),
			[]int64{0, 0, 4, -12, 13, -6, 1}, []int64{1, -2, 1}, 36,
		},
		{
			probe.GraphOf(7, 0, 1, 1, 2, 2, 3, 3, 4, 4, 5, 5, 6, 6, 0),
			[]int64{0, 6, -21, 35, -35, 21, -7, 1}, []int64{-1, 1}, 126,
		},
		{
			probe.GraphOf(1, 0, 0, 0, 0, 0, 0, 0, 0, 0, 0, 0, 0, 0, 0, 0, 0),
			[]int64{0, 0}, []int64{1, -8, 28, -56, 70, -56, 28, -8, 1}, 0,
		},
	} {
		if got, e := tutte.Chromatic(x.g); e != api.OK || !slices.Equal(got, x.colours) {
			t.Errorf("Chromatic(%v) = %v, %d, want %v", x.g, got, e, x.colours)
		}
		if got, e := tutte.Flow(x.g); e != api.OK || !slices.Equal(got, x.flow) {
			t.Errorf("Flow(%v) = %v, %d, want %v", x.g, got, e, x.flow)
		}
		if got, e := tutte.Acyclic(x.g); e != api.OK || got != x.ways {
			t.Errorf("Acyclic(%v) = %d, %d, want %d", x.g, got, e, x.ways)
		}
	}
}
