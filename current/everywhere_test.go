package current_test

import (
	"slices"
	"testing"

	"rota/api"
	"rota/current"
	"rota/probe"
)

// answer of any call of the package.
type answer struct {
	l    []string
	text string
	e    api.Errno
}

func (a answer) is(b answer) bool { return slices.Equal(a.l, b.l) && a.text == b.text && a.e == b.e }

// call of a net and of two vertices, if it takes some.
type call struct {
	name string
	do   func(g api.Graph, c []int, s, t int) answer
}

func check() call {
	return call{"Check", func(g api.Graph, c []int, _, _ int) answer { return answer{e: current.Check(g, c)} }}
}

func potentials() call {
	return call{"Potentials", func(g api.Graph, c []int, s, t int) answer {
		l, e := current.Potentials(g, c, s, t)
		return answer{l: l, e: e}
	}}
}

func resistance() call {
	return call{"Resistance", func(g api.Graph, c []int, s, t int) answer {
		text, e := current.Resistance(g, c, s, t)
		return answer{text: text, e: e}
	}}
}

func trees() call {
	return call{"Trees", func(g api.Graph, c []int, _, _ int) answer {
		text, e := current.Trees(g, c)
		return answer{text: text, e: e}
	}}
}

func shares() call {
	return call{"Shares", func(g api.Graph, c []int, _, _ int) answer {
		l, e := current.Shares(g, c)
		return answer{l: l, e: e}
	}}
}

func calls() []call { return []call{check(), potentials(), resistance(), trees(), shares()} }

func hold(t *testing.T, c call, x net, a, b int, want answer) {
	t.Helper()
	if got := c.do(x.g, x.c, a, b); !got.is(want) {
		t.Errorf("%s(%d, %.8v, %.8v; %d, %d) = %v, want %v", c.name, x.g.N, x.g.Edges, x.c, a, b, got, want)
	}
}

func TestCheck(t *testing.T) {
	for _, x := range nets() {
		hold(t, check(), x, 0, 0, answer{})
	}
}

// TestNoGraphs: what is said of a graph is ahead of all else.
func TestNoGraphs(t *testing.T) {
	for _, g := range probe.WrongGraphs() {
		for _, c := range calls() {
			for _, l := range [][]int{nil, {1}, {0}, {1, 1}, {-1, 2000}, slices.Repeat([]int{1}, len(g.Edges))} {
				hold(t, c, net{g, l}, 0, 0, answer{e: api.ErrArg})
				hold(t, c, net{g, l}, -1, 8, answer{e: api.ErrArg})
			}
		}
	}
}

// TestNoNumbers: too few or too many, or one that is not from 1 to 1000; that is
// told ahead of what there is to say of the vertices.
func TestNoNumbers(t *testing.T) {
	given := append(probe.SmallGraphs()[:30], probe.Graphs()[len(probe.SmallGraphs()):]...)
	for _, g := range given {
		for _, wrong := range probe.NoNumbers(len(g.Edges), 1, 1000) {
			for _, c := range calls() {
				for _, v := range []int{0, g.N - 1, g.N, -1} {
					hold(t, c, net{g, wrong.L}, 0, v, answer{e: wrong.Want})
				}
			}
		}
	}
}

// TestNoPanic is P1: a panic in any of these calls ends the test.
func TestNoPanic(t *testing.T) {
	var given []api.Graph
	for _, n := range probe.Wide() {
		for _, v := range probe.Wide() {
			given = append(given, probe.GraphOf(n, 0, v), probe.GraphOf(3, n, v, 0, 1))
		}
	}
	given = append(given, probe.WrongGraphs()...)
	for _, g := range append(given, probe.Graphs()[700:]...) {
		for _, c := range calls() {
			for _, l := range [][]int{nil, {1}, {1, 1}, {1, 1000, 1}, probe.Wide(), slices.Repeat([]int{1}, min(len(g.Edges), 9))} {
				c.do(g, l, 0, 1)
			}
			for _, v := range probe.Wide() {
				l := slices.Repeat([]int{3}, min(len(g.Edges), 9))
				c.do(g, l, v, 0)
				c.do(g, l, 0, v)
				c.do(g, l, v, v)
			}
		}
	}
}

// told: what is in an answer, as numbers, the list's texts one behind the other.
func told(a answer) []int {
	l := []int{int(a.e), len(a.l)}
	for _, text := range append(a.l, a.text) {
		l = append(l, len(text))
		for _, b := range []byte(text) {
			l = append(l, int(b))
		}
	}
	return l
}

// TestMemory is P2, of the edges and of the numbers that are handed in.
func TestMemory(t *testing.T) {
	given := someNets()
	for _, g := range probe.WrongGraphs() {
		given = append(given, net{g, []int{1}})
	}
	for _, wrong := range probe.NoNumbers(3, 1, 1000) {
		given = append(given, net{probe.GraphOf(3, 0, 1, 1, 2, 2, 0), wrong.L})
	}
	for _, x := range given {
		for _, c := range calls() {
			ofGraph := probe.MemoryOfGraph(x.g, func(g api.Graph) []int { return told(c.do(g, x.c, 0, x.g.N-1)) })
			ofNumbers := probe.Memory(x.c, func(l []int) []int { return told(c.do(x.g, l, 0, x.g.N-1)) })
			if ofGraph+ofNumbers != "" {
				t.Errorf("%s(%d, %.8v, %.8v) %s%s", c.name, x.g.N, x.g.Edges, x.c, ofGraph, ofNumbers)
			}
		}
	}
}

// TestListsAreApart is P2 for the lists of two answers.
func TestListsAreApart(t *testing.T) {
	for _, x := range someNets() {
		for _, c := range []call{potentials(), shares()} {
			first, second := c.do(x.g, x.c, 0, 0), c.do(x.g, x.c, 0, 0)
			kept := answer{slices.Clone(second.l), second.text, second.e}
			for room := first.l[:cap(first.l)]; len(room) > 0; room = room[1:] {
				room[0] = "other"
			}
			if !second.is(kept) || !c.do(x.g, x.c, 0, 0).is(kept) {
				t.Errorf("%s(%v) answers memory twice", c.name, x)
			}
		}
	}
}
