package minors_test

import (
	"slices"
	"testing"

	"rota/api"
	"rota/minors"
	"rota/probe"
	"rota/sets"
)

// isPartition: is l a partition of n elements, rising, such that two are in
// one set just if they are together?
func isPartition(n int, l []int, together func(x, y int) bool) bool {
	seen := 0
	for i, s := range l {
		if s <= 0 || s&seen != 0 || i > 0 && s <= l[i-1] {
			return false
		}
		seen |= s
	}
	for x := range n {
		for y := range x {
			both := 1<<x | 1<<y
			inOne := slices.ContainsFunc(l, func(s int) bool { return s&both == both })
			if inOne != together(x, y) {
				return false
			}
		}
	}
	return seen == 1<<n-1
}

// alike: are two elements loops, or parallel?
func alike(m api.Matroid, x, y int) bool {
	a, b, both := probe.Rank(m, 1<<x), probe.Rank(m, 1<<y), probe.Rank(m, 1<<x|1<<y)
	return a == 0 && b == 0 || a == 1 && b == 1 && both == 1
}

func TestClasses(t *testing.T) {
	for _, m := range probe.Matroids() {
		together := func(x, y int) bool { return alike(m, x, y) }
		if got, e := minors.Classes(m); e != api.OK || !isPartition(m.N, got, together) {
			t.Errorf("Classes(%v) = %v, %d", m, got, e)
		}
	}
}

func TestSimple(t *testing.T) {
	for _, m := range probe.Matroids() {
		var kept []int
		for x := range m.N {
			isLeast := !slices.ContainsFunc(kept, func(y int) bool { return alike(m, x, y) })
			if probe.Rank(m, 1<<x) == 1 && isLeast {
				kept = append(kept, x)
			}
		}
		got, e := minors.Simple(m)
		if e != api.OK || !hasRanks(got, kept, func(old int) int { return probe.Rank(m, old) }) {
			t.Errorf("Simple(%v) = %v, %d", m, got, e)
		}
		if again, e := minors.Simple(got); e != api.OK || !probe.Equal(again, got) {
			t.Errorf("Simple(Simple(%v)) = %v, %d, want %v", m, again, e, got)
		}
	}
}

func TestComponents(t *testing.T) {
	for _, m := range probe.Matroids() {
		circuits := sets.Sieve(m.N, func(s int) bool { return probe.Circuit(m, s) })
		together := func(x, y int) bool {
			return slices.ContainsFunc(circuits, func(c int) bool { return c>>x&1 == 1 && c>>y&1 == 1 })
		}
		got, e := minors.Components(m)
		if e != api.OK || !isPartition(m.N, got, together) {
			t.Errorf("Components(%v) = %v, %d", m, got, e)
		}
		dual, e := minors.Dual(m)
		sure(t, dual, e)
		if turned, e := minors.Components(dual); e != api.OK || !slices.Equal(turned, got) {
			t.Errorf("Components(Dual(%v)) = %v, %d, want %v", m, turned, e, got)
		}
	}
}

// TestClassesEdges holds answers that were found by hand.
func TestClassesEdges(t *testing.T) {
	for _, x := range []struct {
		m                   api.Matroid
		classes, components []int
		simple              api.Matroid
	}{
		{probe.Uniform(0, 0), nil, nil, probe.Uniform(0, 0)},
		{probe.Uniform(0, 1), []int{1}, []int{1}, probe.Uniform(0, 0)},
		{probe.Uniform(0, 8), []int{255}, []int{1, 2, 4, 8, 16, 32, 64, 128}, probe.Uniform(0, 0)},
		{probe.Uniform(1, 8), []int{255}, []int{255}, probe.Uniform(1, 1)},
		{probe.Uniform(7, 8), []int{1, 2, 4, 8, 16, 32, 64, 128}, []int{255}, probe.Uniform(7, 8)},
		{probe.Uniform(8, 8), []int{1, 2, 4, 8, 16, 32, 64, 128}, []int{1, 2, 4, 8, 16, 32, 64, 128}, probe.Uniform(8, 8)},
		{api.Matroid{N: 3, Bases: []int{1, 4}}, []int{2, 5}, []int{2, 5}, probe.Uniform(1, 1)},
		{api.Matroid{N: 3, Bases: []int{3, 6}}, []int{2, 5}, []int{2, 5}, probe.Uniform(2, 2)},
		// 1 and 4 are loops, 0 and 5 are parallel, as are 2 and 3.
		{api.Matroid{N: 6, Bases: []int{5, 9, 36, 40}}, []int{12, 18, 33}, []int{2, 12, 16, 33}, probe.Uniform(2, 2)},
		// Three on a line, one of them twice.
		{api.Matroid{N: 4, Bases: []int{3, 5, 6, 10, 12}}, []int{2, 4, 9}, []int{15}, probe.Uniform(2, 3)},
	} {
		if got, e := minors.Classes(x.m); e != api.OK || !slices.Equal(got, x.classes) {
			t.Errorf("Classes(%v) = %v, %d, want %v", x.m, got, e, x.classes)
		}
		if got, e := minors.Components(x.m); e != api.OK || !slices.Equal(got, x.components) {
			t.Errorf("Components(%v) = %v, %d, want %v", x.m, got, e, x.components)
		}
		if got, e := minors.Simple(x.m); e != api.OK || !probe.Equal(got, x.simple) {
			t.Errorf("Simple(%v) = %v, %d, want %v", x.m, got, e, x.simple)
		}
	}
}
