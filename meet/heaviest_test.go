package meet_test

import (
	"slices"
	"testing"

	"rota/api"
	"rota/greedy"
	"rota/meet"
	"rota/probe"
)

// heaviestWith k elements of the sets of l, which rises: the first that none
// outweighs.
func heaviestWith(k int, l, w []int) int {
	l = slices.DeleteFunc(slices.Clone(l), func(s int) bool { return count(s) != k })
	return slices.MaxFunc(l, func(s, o int) int { return probe.Weight(w, s) - probe.Weight(w, o) })
}

// holdHeaviest holds a and b to the words of P20.
func holdHeaviest(t *testing.T, a, b api.Matroid, w []int) {
	t.Helper()
	l := inBoth(a, b)
	var want []int
	for k := range most(l) + 1 {
		want = append(want, heaviestWith(k, l, w))
	}
	if got, e := meet.Heaviest(a, b, w); e != api.OK || !slices.Equal(got, want) {
		t.Errorf("Heaviest(%v, %v, %v) = %v, %d, want %v", a, b, w, got, e, want)
	}
}

func TestHeaviest(t *testing.T) {
	for n := range 3 {
		smallPairs(n, func(a, b api.Matroid) {
			for _, w := range probe.SomeWeights(n) {
				holdHeaviest(t, a, b, w)
			}
		})
	}
	var jumps probe.Jumps
	hold := func(a, b api.Matroid) {
		some := probe.SomeWeights(a.N)
		for range 3 {
			holdHeaviest(t, a, b, some[jumps.Next(len(some))])
		}
	}
	smallPairs(3, hold)
	smallPairs(4, hold)
	largePairs(hold)
}

// TestHeaviestEdges holds answers that were found by hand.
func TestHeaviestEdges(t *testing.T) {
	pairs := probe.Uniform(2, 4)
	for _, x := range []struct {
		a, b api.Matroid
		w    []int
		want []int
	}{
		{probe.Uniform(0, 0), probe.Uniform(0, 0), nil, []int{0}},
		{probe.Uniform(0, 0), probe.Uniform(0, 0), []int{}, []int{0}},
		{probe.Uniform(0, 1), probe.Uniform(1, 1), []int{1000}, []int{0}},
		{probe.Uniform(1, 1), probe.Uniform(1, 1), []int{-1000}, []int{0, 1}},
		{pairs, pairs, []int{1, 2, 3, 4}, []int{0, 8, 12}},
		{pairs, pairs, []int{4, 3, 2, 1}, []int{0, 1, 3}},
		{pairs, pairs, []int{0, 0, 0, 0}, []int{0, 1, 3}},
		{pairs, pairs, []int{-1000, -1000, -999, -1000}, []int{0, 4, 5}},
		// Of 5 and 6, and of 9 and 10, the lesser.
		{pairs, pairs, []int{1, 1, 2, 0}, []int{0, 4, 5}},
		{pairs, pairs, []int{1, 1, 0, 2}, []int{0, 8, 9}},
		{pairs, probe.Uniform(1, 4), []int{1, 5, 5, 4}, []int{0, 2}},
		{probe.Uniform(8, 8), probe.Uniform(3, 8), []int{1, 2, 3, 4, 5, 6, 7, 8}, []int{0, 128, 192, 224}},
		{probe.Uniform(8, 8), probe.Uniform(8, 8), []int{1000, 1000, 1000, 1000, 1000, 1000, 1000, 1000}, []int{0, 1, 3, 7, 15, 31, 63, 127, 255}},
		// The heaviest is a loop of b.
		{pairs, api.Matroid{N: 4, Bases: []int{3, 5, 6}}, []int{1, 2, 3, 1000}, []int{0, 4, 6}},
		// 0 and 1 are parallel in a, 1 and 2 in b: 1 is heaviest alone, but
		// goes with no other element.
		{api.Matroid{N: 3, Bases: []int{5, 6}}, api.Matroid{N: 3, Bases: []int{3, 5}}, []int{2, 3, 2}, []int{0, 2, 5}},
	} {
		if got, e := meet.Heaviest(x.a, x.b, x.w); e != api.OK || !slices.Equal(got, x.want) {
			t.Errorf("Heaviest(%v, %v, %v) = %v, %d, want %v", x.a, x.b, x.w, got, e, x.want)
		}
	}
}

// TestHeaviestOfOneTwice: in one matroid the greedy sets are as heavy.
func TestHeaviestOfOneTwice(t *testing.T) {
	for _, m := range probe.Matroids() {
		for _, w := range probe.SomeWeights(m.N)[:24] {
			steps, _ := greedy.Steps(m, w)
			got, e := meet.Heaviest(m, m, w)
			alike := slices.EqualFunc(got, steps, func(s, o int) bool {
				return count(s) == count(o) && probe.Weight(w, s) == probe.Weight(w, o)
			})
			if e != api.OK || !alike {
				t.Errorf("Heaviest of %v twice by %v = %v, %d, but the greedy sets are %v", m, w, got, e, steps)
			}
		}
	}
}

// TestHeaviestEndsAsCommon: the last has as many elements as Common's set, and
// is that set, if all weigh the same.
func TestHeaviestEndsAsCommon(t *testing.T) {
	hold := func(a, b api.Matroid) {
		set, _, _ := meet.Common(a, b)
		for _, x := range []int{-1000, 0, 1000} {
			got, e := meet.Heaviest(a, b, slices.Repeat([]int{x}, a.N))
			if e != api.OK || len(got) != count(set)+1 || got[len(got)-1] != set {
				t.Errorf("Heaviest(%v, %v), all %d, = %v, %d, but Common's set is %d", a, b, x, got, e, set)
			}
		}
	}
	smallPairs(4, hold)
	largePairs(hold)
}

func TestNoWeights(t *testing.T) {
	for _, m := range probe.Matroids() {
		for _, x := range probe.NoWeights(m.N) {
			if got := heaviest(m, beside(m), x.L); !isRefusal(got, x.Want) {
				t.Errorf("Heaviest(%v, %v, %.8v) = %v, want %d", m, beside(m), x.L, got, x.Want)
			}
		}
	}
}
