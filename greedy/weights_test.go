package greedy_test

import (
	"slices"
	"testing"

	"rota/api"
	"rota/greedy"
	"rota/probe"
)

// steps by an order: none, and what is taken behind each element that is.
func steps(m api.Matroid, order []int) []int {
	l, taken := []int{0}, 0
	for _, x := range order {
		if probe.Independent(m, taken|1<<x) {
			taken |= 1 << x
			l = append(l, taken)
		}
	}
	return l
}

// byWeight: the elements with each weight, from the greatest weight down.
func byWeight(w []int) []int {
	var order []int
	for weight := 1000; weight >= -1000; weight-- {
		for i, x := range w {
			if x == weight {
				order = append(order, i)
			}
		}
	}
	return order
}

// holdWeights holds m to the words of P16.
func holdWeights(t *testing.T, m api.Matroid, w []int) {
	t.Helper()
	want := steps(m, byWeight(w))
	if got, e := greedy.Steps(m, w); e != api.OK || !slices.Equal(got, want) {
		t.Errorf("Steps(%v, %v) = %v, %d, want %v", m, w, got, e, want)
	}
	basis := want[len(want)-1]
	if got, n, e := greedy.Best(m, w); e != api.OK || got != basis || n != probe.Weight(w, basis) {
		t.Errorf("Best(%v, %v) = %d, %d, %d, want %d, %d", m, w, got, n, e, basis, probe.Weight(w, basis))
	}
}

func TestWeights(t *testing.T) {
	for _, m := range probe.Matroids() {
		for _, w := range probe.SomeWeights(m.N) {
			holdWeights(t, m, w)
		}
	}
}

// TestNoneWeighsMore: no basis weighs more than Best's, and no independent
// set more than the step with as many elements.
func TestNoneWeighsMore(t *testing.T) {
	for _, m := range probe.Matroids() {
		for _, w := range probe.SomeWeights(m.N)[:24] {
			best, n, e := greedy.Best(m, w)
			if e != api.OK || !slices.Contains(m.Bases, best) {
				t.Errorf("Best(%v, %v) = %d, %d, %d, which is no basis", m, w, best, n, e)
			}
			for _, b := range m.Bases {
				if probe.Weight(w, b) > n {
					t.Errorf("%v, %v: %d weighs more than %d", m, w, b, best)
				}
			}
			got, _ := greedy.Steps(m, w)
			for s := range 1 << m.N {
				if probe.Independent(m, s) && probe.Weight(w, s) > probe.Weight(w, got[len(probe.Elements(s))]) {
					t.Errorf("%v, %v: %d weighs more than the step of %v", m, w, s, got)
				}
			}
		}
	}
}

// TestWeightsEdges holds answers that were found by hand.
func TestWeightsEdges(t *testing.T) {
	pairs, k4 := probe.Uniform(2, 4), probe.K4()
	for _, x := range []struct {
		m     api.Matroid
		w     []int
		n     int
		steps []int
	}{
		{pairs, []int{1, 2, 3, 4}, 7, []int{0, 8, 12}},
		{pairs, []int{5, 5, 5, 5}, 10, []int{0, 1, 3}},
		{pairs, []int{0, 5, 0, 5}, 10, []int{0, 2, 10}},
		// What weighs less than nothing is taken all the same.
		{pairs, []int{-1000, -999, -1000, -1000}, -1999, []int{0, 2, 3}},
		{pairs, []int{1000, -1000, 1000, 999}, 2000, []int{0, 1, 5}},
		{probe.Uniform(0, 0), nil, 0, []int{0}},
		{probe.Uniform(0, 0), []int{}, 0, []int{0}},
		{probe.Uniform(0, 1), []int{1000}, 0, []int{0}},
		{probe.Uniform(1, 1), []int{-1000}, -1000, []int{0, 1}},
		{probe.Uniform(8, 8), []int{1, 2, 3, 4, 5, 6, 7, 8}, 36, []int{0, 128, 192, 224, 240, 248, 252, 254, 255}},
		{probe.Uniform(8, 8), []int{1000, 1000, 1000, 1000, 1000, 1000, 1000, 1000}, 8000, []int{0, 1, 3, 7, 15, 31, 63, 127, 255}},
		{probe.Uniform(0, 8), []int{1, 2, 3, 4, 5, 6, 7, 8}, 0, []int{0}},
		// The heaviest is a loop; 1 and 2 are parallel.
		{api.Matroid{N: 4, Bases: []int{3, 5}}, []int{1, 2, 3, 9}, 4, []int{0, 4, 5}},
		// 0, 1 and 3 are a ring.
		{k4, []int{6, 5, 1, 4, 3, 2}, 14, []int{0, 1, 3, 19}},
	} {
		if got, e := greedy.Steps(x.m, x.w); e != api.OK || !slices.Equal(got, x.steps) {
			t.Errorf("Steps(%v, %v) = %v, %d, want %v", x.m, x.w, got, e, x.steps)
		}
		basis := x.steps[len(x.steps)-1]
		if got, n, e := greedy.Best(x.m, x.w); e != api.OK || got != basis || n != x.n {
			t.Errorf("Best(%v, %v) = %d, %d, %d, want %d, %d", x.m, x.w, got, n, e, basis, x.n)
		}
	}
}

// holdNoWeights asks how w is refused.
func holdNoWeights(t *testing.T, m api.Matroid, w []int, want api.Errno) {
	t.Helper()
	if got := best(m, w); !isRefusal(got, want) {
		t.Errorf("Best(%v, %.8v) = %v, want %d", m, w, got, want)
	}
	if got := stepsOf(m, w); !isRefusal(got, want) {
		t.Errorf("Steps(%v, %.8v) = %v, want %d", m, w, got, want)
	}
}

func TestNoWeights(t *testing.T) {
	for _, m := range probe.Matroids() {
		for _, x := range probe.NoWeights(m.N) {
			holdNoWeights(t, m, x.L, x.Want)
		}
	}
}

// TestWeightsOfOne: each element in turn weighs something, up to as much, and
// down to as little, as it may.
func TestWeightsOfOne(t *testing.T) {
	for _, m := range probe.Matroids() {
		for i := range m.N {
			for _, x := range append(probe.Wide(), -1000, 1000) {
				if x >= -1000 && x <= 1000 {
					w := make([]int, m.N)
					w[i] = x
					holdWeights(t, m, w)
				}
			}
		}
	}
}

func TestFirst(t *testing.T) {
	for _, m := range probe.Matroids() {
		for _, order := range probe.SomeOrders(m.N) {
			l := steps(m, order)
			want := l[len(l)-1]
			if got, e := greedy.First(m, order); e != api.OK || got != want {
				t.Errorf("First(%v, %v) = %d, %d, want %d", m, order, got, e, want)
			}
		}
		for _, l := range probe.NoOrders(probe.SomeOrders(m.N)[0]) {
			if got := first(m, l); !isRefusal(got, api.ErrArg) {
				t.Errorf("First(%v, %v) = %v, want %d", m, l, got, api.ErrArg)
			}
		}
	}
}

func TestFirstEdges(t *testing.T) {
	for _, x := range []struct {
		m     api.Matroid
		order []int
		want  int
	}{
		{probe.Uniform(2, 4), []int{2, 0, 1, 3}, 5},
		{probe.Uniform(2, 4), []int{3, 1, 2, 0}, 10},
		{probe.Uniform(0, 0), nil, 0},
		{probe.Uniform(0, 8), []int{7, 6, 5, 4, 3, 2, 1, 0}, 0},
		{probe.Uniform(8, 8), []int{7, 6, 5, 4, 3, 2, 1, 0}, 255},
		{probe.Uniform(1, 8), []int{7, 6, 5, 4, 3, 2, 1, 0}, 128},
		{api.Matroid{N: 4, Bases: []int{3, 5}}, []int{3, 2, 1, 0}, 5},
		{probe.K4(), []int{0, 1, 3, 4, 2, 5}, 19},
	} {
		if got, e := greedy.First(x.m, x.order); e != api.OK || got != x.want {
			t.Errorf("First(%v, %v) = %d, %d, want %d", x.m, x.order, got, e, x.want)
		}
	}
}
