package kinds_test

import (
	"testing"

	"rota/api"
	"rota/axioms"
	"rota/kinds"
	"rota/probe"
)

// isRefusal: is e what is wanted, and nothing else told?
func isRefusal(m api.Matroid, e, want api.Errno) bool {
	return e == want && m.N == 0 && len(m.Bases) == 0
}

// hold an answer to the matroid that is wanted.
func hold(t *testing.T, name string, given any, got api.Matroid, e api.Errno, want api.Matroid) {
	t.Helper()
	if e != api.OK || !probe.Equal(got, want) || axioms.Check(got) != api.OK {
		t.Errorf("%s(%v) = %v, %d, want %v", name, given, got, e, want)
	}
}

// isRound: is each vertex an even number of times an end of an edge of s? Then
// the edges of s, unless there are none, have a ring.
func isRound(g api.Graph, s int) bool {
	var ends [api.MaxVertex]int
	for _, i := range probe.Elements(s) {
		ends[g.Edges[i].A]++
		ends[g.Edges[i].B]++
	}
	for _, n := range ends {
		if n%2 == 1 {
			return false
		}
	}
	return true
}

// barred: the matroid in which a set is independent, if nothing within it but
// the empty set bars it.
func barred(n int, bars func(s int) bool) api.Matroid {
	return probe.WithIndependents(n, func(s int) bool {
		for some := s; some != 0; some = (some - 1) & s {
			if bars(some) {
				return false
			}
		}
		return true
	})
}

func TestGraphs(t *testing.T) {
	for _, g := range probe.Graphs() {
		if e := kinds.CheckGraph(g); e != api.OK {
			t.Errorf("CheckGraph(%v) = %d", g, e)
		}
		got, e := kinds.Graphic(g)
		hold(t, "Graphic", g, got, e, barred(len(g.Edges), func(s int) bool { return isRound(g, s) }))
	}
}

func TestNoGraphs(t *testing.T) {
	for _, g := range probe.WrongGraphs() {
		if e := kinds.CheckGraph(g); e != api.ErrArg {
			t.Errorf("CheckGraph(%d, %.10v) = %d", g.N, g.Edges, e)
		}
		if m, e := kinds.Graphic(g); !isRefusal(m, e, api.ErrArg) {
			t.Errorf("Graphic(%d, %.10v) = %v, %d", g.N, g.Edges, m, e)
		}
	}
}

// TestGraphEdges asks for each number of vertices, of edges, and each end.
func TestGraphEdges(t *testing.T) {
	for n := -2; n <= 10; n++ {
		for k := range 11 {
			want := api.ErrArg
			if n >= 1 && n <= 7 && k <= 8 {
				want = api.OK
			}
			if e := kinds.CheckGraph(api.Graph{N: n, Edges: make([]api.Edge, k)}); e != want {
				t.Errorf("%d vertices, %d edges: %d, want %d", n, k, e, want)
			}
		}
		for a := -2; a <= 10; a++ {
			for b := -2; b <= 10; b++ {
				want := api.ErrArg
				if n >= 1 && n <= 7 && min(a, b) >= 0 && max(a, b) < n {
					want = api.OK
				}
				if e := kinds.CheckGraph(probe.GraphOf(n, 0, 0, a, b)); e != want {
					t.Errorf("%d vertices, %d to %d: %d, want %d", n, a, b, e, want)
				}
			}
		}
	}
}

// TestGraphicByHand holds answers that were found by hand.
func TestGraphicByHand(t *testing.T) {
	for _, x := range []struct {
		g    api.Graph
		want api.Matroid
	}{
		{probe.GraphOf(1), probe.Uniform(0, 0)},
		{probe.GraphOf(7), probe.Uniform(0, 0)},
		{probe.GraphOf(7, 6, 6), probe.Uniform(0, 1)},
		{probe.GraphOf(2, 0, 1), probe.Uniform(1, 1)},
		{probe.GraphOf(2, 1, 0, 0, 1), probe.Uniform(1, 2)},
		{probe.GraphOf(2, 0, 1, 1, 1, 1, 0), api.Matroid{N: 3, Bases: []int{1, 4}}},
		{probe.GraphOf(1, 0, 0, 0, 0, 0, 0, 0, 0, 0, 0, 0, 0, 0, 0, 0, 0), probe.Uniform(0, 8)},
		{probe.GraphOf(2, 0, 1, 0, 1, 0, 1, 0, 1, 0, 1, 0, 1, 0, 1, 0, 1), probe.Uniform(1, 8)},
		{probe.GraphOf(7, 0, 1, 1, 2, 2, 3, 3, 4, 4, 5, 5, 6, 6, 0), probe.Uniform(6, 7)},
		{probe.GraphOf(7, 0, 1, 0, 2, 0, 3, 0, 4, 0, 5, 0, 6), probe.Uniform(6, 6)},
		{probe.GraphOf(4, 0, 1, 2, 3), probe.Uniform(2, 2)},
		{probe.GraphOf(4, 0, 1, 2, 3, 1, 0, 3, 2), api.Matroid{N: 4, Bases: []int{3, 6, 9, 12}}},
		{probe.GraphOf(4, 0, 1, 0, 2, 0, 3, 1, 2, 1, 3, 2, 3), probe.K4()},
	} {
		got, e := kinds.Graphic(x.g)
		hold(t, "Graphic", x.g, got, e, x.want)
	}
}

// TestReached: by all edges, by none, and by some.
func TestReached(t *testing.T) {
	for _, g := range probe.Graphs() {
		all := 1<<len(g.Edges) - 1
		for v := range g.N {
			for _, s := range []int{0, all, all >> 1, all & 0b1010_1010, all & 0b0110_0110, all & 0b1111_0001} {
				if got, want := kinds.Reached(g, s, v), probe.Part(g, s, v); got != want {
					t.Errorf("Reached(%v, %d, %d) = %d, want %d", g, s, v, got, want)
				}
			}
		}
	}
}
