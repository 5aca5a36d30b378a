package tutte_test

import (
	"slices"
	"testing"

	"rota/api"
	"rota/probe"
	"rota/tutte"
)

// answer of any call of the package.
type answer struct {
	rows [][]int64
	l    []int64
	text string
	a, b int
	e    api.Errno
}

// told: what is in an answer that has no list.
func told(x answer) []int {
	l := []int{x.a, x.b, int(x.e)}
	for _, c := range []byte(x.text) {
		l = append(l, int(c))
	}
	return l
}

func isRefusal(x answer, e api.Errno) bool {
	return x.e == e && len(x.rows) == 0 && len(x.l) == 0 && x.text == "" && x.a == 0 && x.b == 0
}

// call of a matroid or graph, and of two numbers, if it takes some.
type call[T any] struct {
	name string
	do   func(given T, x, y int) answer
}

func ofMatroids() []call[api.Matroid] {
	return []call[api.Matroid]{
		{"Polynomial", func(m api.Matroid, _, _ int) answer {
			rows, e := tutte.Polynomial(m)
			return answer{rows: rows, e: e}
		}},
		{"Activities", func(m api.Matroid, b, _ int) answer {
			within, without, e := tutte.Activities(m, b)
			return answer{a: within, b: without, e: e}
		}},
		{"At", func(m api.Matroid, x, y int) answer {
			text, e := tutte.At(m, x, y)
			return answer{text: text, e: e}
		}},
	}
}

func ofGraphs() []call[api.Graph] {
	return []call[api.Graph]{
		{"Chromatic", func(g api.Graph, _, _ int) answer {
			l, e := tutte.Chromatic(g)
			return answer{l: l, e: e}
		}},
		{"Flow", func(g api.Graph, _, _ int) answer {
			l, e := tutte.Flow(g)
			return answer{l: l, e: e}
		}},
		{"Acyclic", func(g api.Graph, _, _ int) answer {
			n, e := tutte.Acyclic(g)
			return answer{a: n, e: e}
		}},
		{"Reliability", func(g api.Graph, up, down int) answer {
			text, e := tutte.Reliability(g, up, down)
			return answer{text: text, e: e}
		}},
	}
}

// TestNoMatroids: what is said of a matroid is ahead of what is said of the
// numbers.
func TestNoMatroids(t *testing.T) {
	for _, x := range probe.Wrong() {
		for _, c := range ofMatroids() {
			for _, n := range []int{0, 1, 3, 15, 255, -1, 256, 1001, -1001, 1 << 20} {
				if got := c.do(x.M, n, n); !isRefusal(got, x.Want) {
					t.Errorf("%s(%d, %.8v; %d) = %v, want %d", c.name, x.M.N, x.M.Bases, n, got, x.Want)
				}
			}
		}
	}
}

func TestNoGraphs(t *testing.T) {
	for _, g := range probe.WrongGraphs() {
		for _, c := range ofGraphs() {
			for _, n := range []int{0, 1, 1000, 1001, -1} {
				if got := c.do(g, n, n); !isRefusal(got, api.ErrArg) {
					t.Errorf("%s(%d, %.8v; %d) = %v", c.name, g.N, g.Edges, n, got)
				}
			}
		}
	}
}

// TestNoPanic is P1: a panic in any of these calls ends the test.
func TestNoPanic(t *testing.T) {
	some := []int{0, 1, -1, 256}
	for _, n := range probe.Wide() {
		for _, l := range probe.Lists() {
			callAll(ofMatroids(), api.Matroid{N: n, Bases: l}, some)
		}
		for _, v := range probe.Wide() {
			callAll(ofGraphs(), probe.GraphOf(n, 0, v, v, 0, v, v), some)
		}
	}
	for _, m := range append(probe.Known(), probe.All(3)...) {
		callAll(ofMatroids(), m, probe.Wide())
	}
	for _, g := range probe.Graphs() {
		callAll(ofGraphs(), g, some)
	}
	callAll(ofGraphs(), probe.GraphOf(3, 0, 1, 1, 2, 2, 0), probe.Wide())
}

func callAll[T any](calls []call[T], given T, numbers []int) {
	for _, c := range calls {
		for _, x := range numbers {
			for _, y := range numbers {
				c.do(given, x, y)
			}
		}
	}
}

func givenMatroids() []api.Matroid {
	given := slices.Concat(probe.Known(), probe.All(3), probe.All(4))
	for _, x := range probe.Wrong() {
		given = append(given, x.M)
	}
	return given
}

// TestMemoryOfMatroids is P2.
func TestMemoryOfMatroids(t *testing.T) {
	for _, m := range givenMatroids() {
		for _, c := range ofMatroids() {
			for _, n := range []int{0, 1, 3, 1001} {
				with := func(bases []int) answer { return c.do(api.Matroid{N: m.N, Bases: bases}, n, n) }
				broken := []string{probe.Memory(m.Bases, func(bases []int) []int { return told(with(bases)) })}
				for i := range with(m.Bases).rows {
					broken = append(broken, probe.Memory(m.Bases, func(bases []int) []int64 { return with(bases).rows[i] }))
				}
				for _, told := range broken {
					if told != "" {
						t.Errorf("%s(%v, %d) %s", c.name, m, n, told)
					}
				}
			}
		}
	}
}

// TestRowsApart is P2: no row has memory of another one, be it of the same
// answer or of one ahead; nor have two answers one list of rows.
func TestRowsApart(t *testing.T) {
	for _, m := range givenMatroids() {
		first, _ := tutte.Polynomial(m)
		second, _ := tutte.Polynomial(m)
		if !probe.RowsApart(first, second) {
			t.Errorf("Polynomial(%v) has rows that are not apart", m)
		}
	}
}

// TestMemoryOfGraphs is P2.
func TestMemoryOfGraphs(t *testing.T) {
	for _, g := range append(probe.Graphs(), probe.WrongGraphs()...) {
		for _, c := range ofGraphs() {
			for _, broken := range []string{
				probe.MemoryOfGraph(g, func(g api.Graph) []int64 { return c.do(g, 1, 2).l }),
				probe.MemoryOfGraph(g, func(g api.Graph) []int { return told(c.do(g, 1, 2)) }),
				probe.MemoryOfGraph(g, func(g api.Graph) []int { return told(c.do(g, 2, 1)) }),
			} {
				if broken != "" {
					t.Errorf("%s(%d, %.8v) %s", c.name, g.N, g.Edges, broken)
				}
			}
		}
	}
}
