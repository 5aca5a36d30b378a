package links_test

import (
	"testing"

	"rota/api"
	"rota/links"
	"rota/probe"
)

// given: a graph, and sets of its vertices.
type given struct {
	g        api.Graph
	from, to int
}

// someCases: each graph of probe with some sets of its vertices.
func someCases() []given {
	var all []given
	var jumps probe.Jumps
	for _, g := range probe.Graphs() {
		for range 4 {
			all = append(all, given{g, jumps.Next(1 << g.N), jumps.Next(1 << g.N)})
		}
	}
	return all
}

// cases: small graphs with all sets of their vertices, the others with some; of
// these half have a vertex in from or in to, but in neither twice.
func cases() []given {
	var all []given
	var jumps probe.Jumps
	for i, g := range probe.Graphs() {
		whole := 1<<g.N - 1
		if i < len(probe.SmallGraphs()) {
			for from := range whole + 1 {
				for to := range whole + 1 {
					all = append(all, given{g, from, to})
				}
			}
			continue
		}
		for range 40 {
			s := jumps.Next(whole + 1)
			all = append(all, given{g, s, jumps.Next(whole + 1)}, given{g, s, whole - s})
		}
	}
	return all
}

// way of vertices, and the set of them.
type way struct {
	l []int
	s int
}

// waysFrom a vertex to one of to, the lesser ones ahead. All edges are asked at
// every step.
func waysFrom(g api.Graph, from, to int) []way {
	var all []way
	var onward func(w way)
	onward = func(w way) {
		last := w.l[len(w.l)-1]
		if to>>last&1 == 1 {
			all = append(all, w)
		}
		for v := range g.N {
			if w.s>>v&1 == 0 && leads(g, last, v) {
				onward(way{append(w.l[:len(w.l):len(w.l)], v), w.s | 1<<v})
			}
		}
	}
	onward(way{[]int{from}, 1 << from})
	return all
}

func leads(g api.Graph, a, b int) bool {
	for _, edge := range g.Edges {
		if edge.A == a && edge.B == b {
			return true
		}
	}
	return false
}

// waysOf each vertex of from, in their order.
func waysOf(x given) [][]way {
	var all [][]way
	for _, v := range probe.Elements(x.from) {
		all = append(all, waysFrom(x.g, v, x.to))
	}
	return all
}

// mostOf these ways that keep apart, and from those that are taken: of each
// list one or none.
func mostOf(all [][]way, taken int) int {
	if len(all) == 0 {
		return 0
	}
	n := mostOf(all[1:], taken)
	for _, w := range all[0] {
		if w.s&taken == 0 {
			n = max(n, 1+mostOf(all[1:], taken|w.s))
		}
	}
	return n
}

// leastCut: all sets of vertices are tried.
func leastCut(n int, all [][]way) int {
	least := 1<<n - 1
	for s := range 1 << n {
		if len(probe.Elements(s)) < len(probe.Elements(least)) && cuts(s, all) {
			least = s
		}
	}
	return least
}

func cuts(s int, all [][]way) bool {
	for _, l := range all {
		for _, w := range l {
			if w.s&s == 0 {
				return false
			}
		}
	}
	return true
}

// firstOf the lists of ways that keep apart, one of each list; they are gone
// through in their order.
func firstOf(all [][]way, taken int) ([][]int, api.Errno) {
	if len(all) == 0 {
		return nil, api.OK
	}
	for _, w := range all[0] {
		if w.s&taken != 0 {
			continue
		}
		if behind, e := firstOf(all[1:], taken|w.s); e == api.OK {
			return append([][]int{w.l}, behind...), api.OK
		}
	}
	return nil, api.ErrNone
}

// TestWays holds the three calls to the words of P39. There are cases enough of
// several ways, found or not.
func TestWays(t *testing.T) {
	found, missed := 0, 0
	for _, x := range cases() {
		all := waysOf(x)
		many := mostOf(all, 0)
		list, e := firstOf(all, 0)
		hold(t, most(), x.g, x.from, x.to, answer{n: many})
		hold(t, cut(), x.g, x.from, x.to, answer{n: leastCut(x.g.N, all)})
		hold(t, ways(), x.g, x.from, x.to, answer{ways: list, e: e})
		if e == api.OK && many > 1 && x.from&x.to == 0 {
			found++
		} else if many > 1 {
			missed++
		}
	}
	if found < 200 || missed < 200 {
		t.Errorf("%d cases have all their ways, %d have not", found, missed)
	}
}

// TestMenger: Cut has as many vertices as Most says, and there are Ways if
// these are as many as from has.
func TestMenger(t *testing.T) {
	for _, x := range cases() {
		many, s := most().do(x.g, x.from, x.to).n, cut().do(x.g, x.from, x.to).n
		list := ways().do(x.g, x.from, x.to)
		starts := len(probe.Elements(x.from))
		if len(probe.Elements(s)) != many || (list.e == api.OK) != (many == starts) || len(list.ways) != many && list.e == api.OK {
			t.Errorf("%v: Most is %d, Cut %d, Ways %v", x, many, s, list)
		}
	}
}

// TestTurnedRound: with all edges turned round, the ways lead back.
func TestTurnedRound(t *testing.T) {
	for _, x := range cases() {
		back := api.Graph{N: x.g.N}
		for _, edge := range x.g.Edges {
			back.Edges = append(back.Edges, api.Edge{A: edge.B, B: edge.A})
		}
		for _, c := range []call{most(), cut()} {
			hold(t, c, back, x.to, x.from, c.do(x.g, x.from, x.to))
		}
	}
}

// TestWaysByHand holds answers that were found by hand.
func TestWaysByHand(t *testing.T) {
	none := answer{e: api.ErrNone}
	ring := probe.GraphOf(7, 0, 1, 1, 2, 2, 3, 3, 4, 4, 5, 5, 6, 6, 0)
	for _, x := range []struct {
		g         api.Graph
		from, to  int
		most, cut int
		ways      answer
	}{
		// Of nothing, and to nothing.
		{probe.GraphOf(1), 0, 0, 0, 0, answer{}},
		{probe.GraphOf(7), 0, 127, 0, 0, answer{}},
		{probe.GraphOf(7), 127, 0, 0, 0, none},
		{ring, 1, 0, 0, 0, none},
		// One vertex alone is a way, whether an edge leads to itself or not.
		{probe.GraphOf(1), 1, 1, 1, 1, answer{ways: [][]int{{0}}}},
		{probe.GraphOf(1, 0, 0), 1, 1, 1, 1, answer{ways: [][]int{{0}}}},
		{probe.GraphOf(2, 0, 0), 1, 2, 0, 0, none},
		{probe.GraphOf(7), 127, 127, 7, 127, answer{ways: [][]int{{0}, {1}, {2}, {3}, {4}, {5}, {6}}}},
		{ring, 127, 127, 7, 127, answer{ways: [][]int{{0}, {1}, {2}, {3}, {4}, {5}, {6}}}},
		// From A to B, and not back; once is enough.
		{probe.GraphOf(2, 0, 1), 1, 2, 1, 1, answer{ways: [][]int{{0, 1}}}},
		{probe.GraphOf(2, 0, 1), 2, 1, 0, 0, none},
		{probe.GraphOf(2, 1, 0), 2, 1, 1, 1, answer{ways: [][]int{{1, 0}}}},
		{probe.GraphOf(2, 0, 1, 0, 1, 0, 1), 1, 2, 1, 1, answer{ways: [][]int{{0, 1}}}},
		// Round the whole ring, or as far as from says.
		{ring, 1, 64, 1, 1, answer{ways: [][]int{{0, 1, 2, 3, 4, 5, 6}}}},
		{ring, 2, 1, 1, 1, answer{ways: [][]int{{1, 2, 3, 4, 5, 6, 0}}}},
		{ring, 9, 36, 2, 9, answer{ways: [][]int{{0, 1, 2}, {3, 4, 5}}}},
		{ring, 17, 6, 1, 1, none},
		// A way ends at the first vertex of to at which it can.
		{probe.GraphOf(3, 0, 1, 1, 2), 1, 6, 1, 1, answer{ways: [][]int{{0, 1}}}},
		{probe.GraphOf(3, 0, 1, 1, 2), 1, 7, 1, 1, answer{ways: [][]int{{0}}}},
		// The lesser vertex is taken, though its way is the longer one.
		{probe.GraphOf(4, 0, 3, 0, 1, 1, 2, 2, 3), 1, 8, 1, 1, answer{ways: [][]int{{0, 1, 2, 3}}}},
		{probe.GraphOf(4, 0, 1, 0, 3, 1, 2), 1, 8, 1, 1, answer{ways: [][]int{{0, 3}}}},
		// 2 is the only way of 1, so that 0 goes by 3.
		{probe.GraphOf(6, 0, 2, 0, 3, 1, 2, 2, 4, 3, 5), 3, 48, 2, 3, answer{ways: [][]int{{0, 3, 5}, {1, 2, 4}}}},
		// 4 is the only end of 1, so that 0 goes by 2 to 5.
		{probe.GraphOf(6, 0, 2, 2, 4, 2, 5, 1, 4), 3, 48, 2, 3, answer{ways: [][]int{{0, 2, 5}, {1, 4}}}},
		// No way leads by a vertex that has a way of its own.
		{probe.GraphOf(3, 0, 1, 1, 2), 3, 4, 1, 2, none},
		{probe.GraphOf(4, 0, 1, 1, 2, 0, 3), 3, 12, 2, 3, answer{ways: [][]int{{0, 3}, {1, 2}}}},
		{probe.GraphOf(4, 0, 1, 1, 2, 1, 3), 3, 12, 1, 2, none},
		// All ways lead by one vertex.
		{probe.GraphOf(7, 0, 3, 1, 3, 2, 3, 3, 4, 3, 5, 3, 6), 7, 112, 1, 8, none},
		{probe.GraphOf(7, 0, 6, 1, 6, 2, 6, 6, 3, 6, 4, 6, 5), 7, 56, 1, 64, none},
		// By 3 or by 5, and by 2, 4 or 6: the least of these six sets is {2, 3}.
		{probe.GraphOf(7, 0, 3, 1, 3, 2, 4, 3, 5, 4, 6), 7, 96, 2, 12, none},
		// {4} is fewer than {0, 1}, though the greater number.
		{probe.GraphOf(6, 0, 4, 1, 4, 4, 2, 4, 3), 3, 12, 1, 16, none},
	} {
		hold(t, most(), x.g, x.from, x.to, answer{n: x.most})
		hold(t, cut(), x.g, x.from, x.to, answer{n: x.cut})
		hold(t, ways(), x.g, x.from, x.to, x.ways)
	}
}

// TestOrderOfEdges: it is nothing to the ways.
func TestOrderOfEdges(t *testing.T) {
	for _, x := range someCases() {
		turned := api.Graph{N: x.g.N}
		for i := range x.g.Edges {
			turned.Edges = append(turned.Edges, x.g.Edges[len(x.g.Edges)-1-i])
		}
		list, e := links.Ways(turned, x.from, x.to)
		hold(t, ways(), x.g, x.from, x.to, answer{ways: list, e: e})
	}
}
