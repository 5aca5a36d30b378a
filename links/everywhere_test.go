package links_test

import (
	"slices"
	"testing"

	"rota/api"
	"rota/links"
	"rota/probe"
)

// answer of any call of the package.
type answer struct {
	ways [][]int
	m    api.Matroid
	l    []int
	n    int
	e    api.Errno
}

func (a answer) is(b answer) bool {
	return slices.EqualFunc(a.ways, b.ways, slices.Equal) && probe.Equal(a.m, b.m) &&
		slices.Equal(a.l, b.l) && a.n == b.n && a.e == b.e
}

// told: what is in an answer, a list as it is.
func told(a answer) []int {
	switch {
	case a.l != nil:
		return a.l
	case a.m.Bases != nil:
		return a.m.Bases
	}
	return append(slices.Concat(a.ways...), a.n, int(a.e))
}

// call of a graph and of two sets of its vertices; those that take one set are
// handed the second one.
type call struct {
	name string
	do   func(g api.Graph, from, to int) answer
}

func ofNumbers(name string, do func(g api.Graph, from, to int) (int, api.Errno)) call {
	return call{name, func(g api.Graph, from, to int) answer {
		n, e := do(g, from, to)
		return answer{n: n, e: e}
	}}
}

func most() call { return ofNumbers("Most", links.Most) }

func cut() call { return ofNumbers("Cut", links.Cut) }

func ways() call {
	return call{"Ways", func(g api.Graph, from, to int) answer {
		found, e := links.Ways(g, from, to)
		return answer{ways: found, e: e}
	}}
}

func gammoid() call {
	return call{"Gammoid", func(g api.Graph, _, to int) answer {
		m, e := links.Gammoid(g, to)
		return answer{m: m, e: e}
	}}
}

func setsOf() call {
	return call{"Sets", func(g api.Graph, _, to int) answer {
		l, e := links.Sets(g, to)
		return answer{l: l, e: e}
	}}
}

func callsOfTwo() []call { return []call{most(), cut(), ways()} }

func callsOfOne() []call { return []call{gammoid(), setsOf()} }

func calls() []call { return append(callsOfTwo(), callsOfOne()...) }

func hold(t *testing.T, c call, g api.Graph, from, to int, want answer) {
	t.Helper()
	if got := c.do(g, from, to); !got.is(want) {
		t.Errorf("%s(%d, %.8v; %d, %d) = %v, want %v", c.name, g.N, g.Edges, from, to, got, want)
	}
}

func TestNoGraphs(t *testing.T) {
	for _, g := range probe.WrongGraphs() {
		for _, c := range calls() {
			for _, s := range []int{0, 1, 2, 127, -1, 256} {
				hold(t, c, g, s, s, answer{e: api.ErrArg})
				hold(t, c, g, s, 0, answer{e: api.ErrArg})
				hold(t, c, g, 0, s, answer{e: api.ErrArg})
			}
		}
	}
}

// TestNoSets: either set may be none of as many vertices.
func TestNoSets(t *testing.T) {
	for _, g := range probe.Graphs() {
		whole := 1<<g.N - 1
		for _, s := range append(probe.Wide(), whole+1, whole+2, -whole-1, ^whole) {
			if s >= 0 && s <= whole {
				continue
			}
			for _, right := range []int{0, 1, whole} {
				for _, c := range calls() {
					hold(t, c, g, right, s, answer{e: api.ErrArg})
				}
				for _, c := range callsOfTwo() {
					hold(t, c, g, s, right, answer{e: api.ErrArg})
					hold(t, c, g, s, s, answer{e: api.ErrArg})
				}
			}
		}
	}
}

// TestNoPanic is P1: a panic in any of these calls ends the test.
func TestNoPanic(t *testing.T) {
	given := append(probe.WrongGraphs(), probe.Graphs()[700:]...)
	for _, n := range probe.Wide() {
		for _, v := range probe.Wide() {
			given = append(given, probe.GraphOf(n, 0, v, v, 0, v, v), probe.GraphOf(3, n, v))
		}
	}
	for _, g := range given {
		for _, s := range probe.Wide() {
			for _, c := range calls() {
				c.do(g, s, s)
				c.do(g, s, 1)
				c.do(g, 1, s)
			}
		}
	}
}

// TestMemory is P2.
func TestMemory(t *testing.T) {
	for _, x := range someCases() {
		for _, c := range calls() {
			broken := probe.MemoryOfGraph(x.g, func(g api.Graph) []int { return told(c.do(g, x.from, x.to)) })
			if broken != "" {
				t.Errorf("%s(%v, %d, %d) %s", c.name, x.g, x.from, x.to, broken)
			}
		}
	}
	for _, g := range probe.WrongGraphs() {
		for _, c := range calls() {
			broken := probe.MemoryOfGraph(g, func(g api.Graph) []int { return told(c.do(g, 1, 1)) })
			if broken != "" {
				t.Errorf("%s(%d, %.8v) %s", c.name, g.N, g.Edges, broken)
			}
		}
	}
}

// TestWaysAreApart is P2 for the ways of one answer, and of two.
func TestWaysAreApart(t *testing.T) {
	for _, x := range someCases() {
		first, _ := links.Ways(x.g, x.from, x.to)
		second, _ := links.Ways(x.g, x.from, x.to)
		if !probe.RowsApart(first, second) {
			t.Errorf("Ways(%v, %d, %d) answers memory twice", x.g, x.from, x.to)
		}
	}
}
