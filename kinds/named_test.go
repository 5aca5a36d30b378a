package kinds_test

import (
	"slices"
	"strings"
	"testing"

	"rota/api"
	"rota/axioms"
	"rota/kinds"
	"rota/probe"
)

// allBut: the sets of n elements that have as many as the rank, but those of
// the lists.
func allBut(n, rank int, but ...[]int) api.Matroid {
	m := probe.Uniform(rank, n)
	m.Bases = slices.DeleteFunc(m.Bases, func(s int) bool {
		return slices.ContainsFunc(but, func(l []int) bool { return slices.Equal(probe.Elements(s), l) })
	})
	return m
}

func TestNamed(t *testing.T) {
	for _, x := range []struct {
		name string
		want api.Matroid
		many int
	}{
		{"fano", allBut(7, 3, []int{0, 1, 3}, []int{1, 2, 4}, []int{2, 3, 5}, []int{3, 4, 6}, []int{0, 4, 5}, []int{1, 5, 6}, []int{0, 2, 6}), 28},
		{"nonfano", allBut(7, 3, []int{0, 1, 3}, []int{1, 2, 4}, []int{2, 3, 5}, []int{3, 4, 6}, []int{0, 4, 5}, []int{1, 5, 6}), 29},
		{"k4", allBut(6, 3, []int{0, 1, 3}, []int{0, 2, 4}, []int{1, 2, 5}, []int{3, 4, 5}), 16},
		{"vamos", allBut(8, 4, []int{0, 1, 2, 3}, []int{0, 1, 4, 5}, []int{2, 3, 4, 5}, []int{0, 1, 6, 7}, []int{2, 3, 6, 7}), 65},
	} {
		got, e := kinds.Named(x.name)
		hold(t, "Named", x.name, got, e, x.want)
		if len(got.Bases) != x.many || axioms.Check(got) != api.OK {
			t.Errorf("Named(%q) has %d bases, want %d", x.name, len(got.Bases), x.many)
		}
	}
}

func TestOtherNames(t *testing.T) {
	for _, name := range []string{
		"", " ", "nobody", "Fano", "FANO", "fano ", " fano", "fan", "fanoo", "non-fano", "nonFano",
		"K4", "k", "k5", "k4\n", "k4\x00", "vámos", "vamo", "uniform", "\xff", strings.Repeat("fano", 1<<16),
	} {
		if got, e := kinds.Named(name); !isRefusal(got, e, api.ErrName) {
			t.Errorf("Named(%.20q) = %v, %d", name, got, e)
		}
	}
}

// TestNamedAsMatrices: Fano's plane has a matrix modulo 2; of the same numbers,
// modulo any other prime, one line less is there.
func TestNamedAsMatrices(t *testing.T) {
	numbers := []int{
		0, 1, 1, 1, 0, 0, 1,
		1, 1, 0, 0, 1, 0, 1,
		1, 1, 1, 0, 0, 1, 0,
	}
	for _, x := range []struct {
		p    int
		name string
	}{{2, "fano"}, {3, "nonfano"}, {5, "nonfano"}, {7, "nonfano"}} {
		want, _ := kinds.Named(x.name)
		matrix := probe.MatrixOf(x.p, 7, numbers...)
		got, e := kinds.Linear(matrix)
		hold(t, "Linear", matrix, got, e, want)
	}
}
