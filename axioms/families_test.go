package axioms_test

import (
	"slices"
	"testing"

	"rota/api"
	"rota/axioms"
	"rota/probe"
	"rota/sets"
)

// call that tells a list of a matroid, beside P7's words done at length.
type call struct {
	name string
	tell func(m api.Matroid) ([]int, api.Errno)
	want func(m api.Matroid) []int
}

func calls() []call {
	return []call{
		{"Independents", axioms.Independents, sieve(probe.Independent)},
		{"Circuits", axioms.Circuits, sieve(probe.Circuit)},
		{"Flats", axioms.Flats, sieve(probe.Flat)},
		{"Hyperplanes", axioms.Hyperplanes, sieve(probe.Hyperplane)},
		{"Ranks", axioms.Ranks, func(m api.Matroid) []int {
			var l []int
			for s := range 1 << m.N {
				l = append(l, probe.Rank(m, s))
			}
			return l
		}},
	}
}

// sieve makes a call of a question that is asked of each set.
func sieve(is func(m api.Matroid, s int) bool) func(m api.Matroid) []int {
	return func(m api.Matroid) []int {
		return sets.Sieve(m.N, func(s int) bool { return is(m, s) })
	}
}

func closure(m api.Matroid, s int) int {
	closed := s
	for x := range m.N {
		if probe.Rank(m, s|1<<x) == probe.Rank(m, s) {
			closed |= 1 << x
		}
	}
	return closed
}

func TestFamilies(t *testing.T) {
	for _, m := range probe.Matroids() {
		for _, c := range calls() {
			if got, e := c.tell(m); e != api.OK || !slices.Equal(got, c.want(m)) {
				t.Errorf("%s(%v) = %v, %d, want %v", c.name, m, got, e, c.want(m))
			}
		}
	}
}

func TestClosure(t *testing.T) {
	for _, m := range probe.Matroids() {
		for s := range 1 << m.N {
			if got, e := axioms.Closure(m, s); e != api.OK || got != closure(m, s) {
				t.Errorf("Closure(%v, %d) = %d, %d, want %d", m, s, got, e, closure(m, s))
			}
		}
	}
}

func TestFamiliesEdges(t *testing.T) {
	nothing, loop := api.Matroid{N: 0, Bases: []int{0}}, api.Matroid{N: 1, Bases: []int{0}}
	all, four := api.Matroid{N: 2, Bases: []int{3}}, api.Matroid{N: 4, Bases: []int{3, 5, 6, 9, 10, 12}}
	for _, x := range []struct {
		m                                                 api.Matroid
		independents, circuits, ranks, flats, hyperplanes []int
	}{
		{nothing, []int{0}, nil, []int{0}, []int{0}, nil},
		{loop, []int{0}, []int{1}, []int{0, 0}, []int{1}, nil},
		{all, []int{0, 1, 2, 3}, nil, []int{0, 1, 1, 2}, []int{0, 1, 2, 3}, []int{1, 2}},
		{four, []int{0, 1, 2, 3, 4, 5, 6, 8, 9, 10, 12}, []int{7, 11, 13, 14},
			[]int{0, 1, 1, 2, 1, 2, 2, 2, 1, 2, 2, 2, 2, 2, 2, 2}, []int{0, 1, 2, 4, 8, 15}, []int{1, 2, 4, 8}},
	} {
		for i, want := range [][]int{x.independents, x.circuits, x.flats, x.hyperplanes, x.ranks} {
			c := calls()[i]
			if got, e := c.tell(x.m); e != api.OK || !slices.Equal(got, want) {
				t.Errorf("%s(%v) = %v, %d, want %v", c.name, x.m, got, e, want)
			}
		}
	}
}

func TestFamiliesRefuse(t *testing.T) {
	for _, x := range probe.Wrong() {
		for _, c := range calls() {
			if got, e := c.tell(x.M); e != x.Want || len(got) != 0 {
				t.Errorf("%s(%d, %.8v) = %v, %d, want %d", c.name, x.M.N, x.M.Bases, got, e, x.Want)
			}
		}
		// What is said of a matroid is ahead of what is said of a set.
		for _, s := range []int{0, 1, -1, 1 << 20} {
			if got, e := axioms.Closure(x.M, s); e != x.Want || got != 0 {
				t.Errorf("Closure(%d, %.8v; %d) = %d, %d, want %d", x.M.N, x.M.Bases, s, got, e, x.Want)
			}
		}
	}
	for _, m := range probe.Matroids() {
		for _, s := range probe.Wide() {
			if s >= 0 && s < 1<<m.N {
				continue
			}
			if got, e := axioms.Closure(m, s); e != api.ErrArg || got != 0 {
				t.Errorf("Closure(%v, %d) = %d, %d", m, s, got, e)
			}
		}
	}
}
