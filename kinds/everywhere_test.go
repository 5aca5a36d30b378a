package kinds_test

import (
	"testing"

	"rota/api"
	"rota/kinds"
	"rota/probe"
)

// TestNoPanic is P1: a panic in any of these calls ends the test.
func TestNoPanic(t *testing.T) {
	for _, n := range probe.Wide() {
		for _, k := range probe.Wide() {
			kinds.Uniform(n, k)
			callWithGraph(probe.GraphOf(n, 0, k, k, 0, k, k))
			for _, v := range probe.Wide() {
				callWithGraph(probe.GraphOf(n, k, v))
				callWithMatrix(api.Matrix{P: n, Cols: k, Rows: [][]int{{v}, nil, {v, v}}})
			}
		}
		for _, l := range probe.Lists() {
			kinds.Transversal(n, l)
			for _, most := range [][]int{nil, l, {n}, {n, n}, probe.Wide()} {
				kinds.Laminar(n, l, most)
				callWithMatrix(api.Matrix{P: 7, Cols: n, Rows: [][]int{l, most}})
				callWithMatrix(api.Matrix{P: n, Cols: len(l), Rows: [][]int{l, l, most}})
			}
		}
	}
}

func callWithGraph(g api.Graph) {
	kinds.CheckGraph(g)
	kinds.Graphic(g)
}

func callWithMatrix(x api.Matrix) {
	kinds.CheckMatrix(x)
	kinds.Linear(x)
}

// TestMemoryOfGraphs is P2.
func TestMemoryOfGraphs(t *testing.T) {
	for _, g := range append(probe.Graphs(), probe.WrongGraphs()...) {
		told := probe.MemoryOfGraph(g, func(g api.Graph) []int {
			kinds.CheckGraph(g)
			m, _ := kinds.Graphic(g)
			return m.Bases
		})
		if told != "" {
			t.Errorf("Graphic(%v) %s", g, told)
		}
	}
}

// TestMemoryOfMatrices is P2.
func TestMemoryOfMatrices(t *testing.T) {
	for _, x := range append(probe.Matrices(), probe.WrongMatrices()...) {
		// Each row is copied with room behind it; of so many that is much.
		if len(x.Rows) > 100 {
			continue
		}
		told := probe.MemoryOfMatrix(x, func(x api.Matrix) []int {
			kinds.CheckMatrix(x)
			m, _ := kinds.Linear(x)
			return m.Bases
		})
		if told != "" {
			t.Errorf("Linear(%v) %s", x, told)
		}
	}
}

// TestMemoryOfLists is P2, for Laminar of either list.
func TestMemoryOfLists(t *testing.T) {
	for _, l := range append(probe.Lists(), []int{1, 3, 7}, []int{3, 4, 7}, []int{7, 7, 7}, []int{0, 1, 2, 3, 4}) {
		most := []int{1, 1, 2}
		hold := func(name string, do func(l []int) []int) {
			if told := probe.Memory(l, do); told != "" {
				t.Errorf("%s(3, %.10v) %s", name, l, told)
			}
		}
		hold("Transversal", func(l []int) []int {
			m, _ := kinds.Transversal(3, l)
			return m.Bases
		})
		hold("Laminar, first list", func(l []int) []int {
			m, _ := kinds.Laminar(3, l, most)
			return m.Bases
		})
		hold("Laminar, second list", func(l []int) []int {
			m, _ := kinds.Laminar(3, []int{1, 3, 7}, l)
			return m.Bases
		})
		hold("Laminar, one list as both", func(l []int) []int {
			m, _ := kinds.Laminar(3, l, l)
			return m.Bases
		})
	}
}

// TestMemoryOfNothing is P2 for the calls that take no list.
func TestMemoryOfNothing(t *testing.T) {
	for _, name := range []string{"fano", "nonfano", "k4", "vamos", "nobody"} {
		told := probe.Memory(nil, func([]int) []int {
			m, _ := kinds.Named(name)
			return m.Bases
		})
		if told != "" {
			t.Errorf("Named(%q) %s", name, told)
		}
	}
	for n := range 9 {
		told := probe.Memory(nil, func([]int) []int {
			m, _ := kinds.Uniform(n/2, n)
			return m.Bases
		})
		if told != "" {
			t.Errorf("Uniform(%d, %d) %s", n/2, n, told)
		}
	}
}
