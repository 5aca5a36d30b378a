package minors_test

import (
	"slices"
	"testing"

	"rota/api"
	"rota/axioms"
	"rota/minors"
	"rota/probe"
	"rota/sets"
)

// sure: the answer of a call that must not be refused.
func sure(t *testing.T, m api.Matroid, e api.Errno) api.Matroid {
	t.Helper()
	if e != api.OK {
		t.Fatalf("refused with %d", e)
	}
	return m
}

func TestDual(t *testing.T) {
	for _, m := range probe.Matroids() {
		bases := sets.Sieve(m.N, func(s int) bool { return slices.Contains(m.Bases, 1<<m.N-1-s) })
		want := api.Matroid{N: m.N, Bases: bases}
		got, e := minors.Dual(m)
		if e != api.OK || !probe.Equal(got, want) {
			t.Errorf("Dual(%v) = %v, %d, want %v", m, got, e, want)
		}
		if twice, e := minors.Dual(got); e != api.OK || !probe.Equal(twice, m) {
			t.Errorf("Dual(Dual(%v)) = %v, %d", m, twice, e)
		}
	}
}

// oldNames: what t, a set of the kept elements by their new numbers, was.
func oldNames(kept []int, t int) int {
	old := 0
	for _, i := range probe.Elements(t) {
		old |= 1 << kept[i]
	}
	return old
}

// hasRanks: is got a matroid of the kept elements, with these ranks?
func hasRanks(got api.Matroid, kept []int, rank func(old int) int) bool {
	if got.N != len(kept) || axioms.Check(got) != api.OK {
		return false
	}
	for s := range 1 << got.N {
		if probe.Rank(got, s) != rank(oldNames(kept, s)) {
			return false
		}
	}
	return true
}

func TestDeleteAndContract(t *testing.T) {
	for _, m := range probe.Matroids() {
		for s := range 1 << m.N {
			kept := probe.Elements(1<<m.N - 1 - s)
			alone := func(old int) int { return probe.Rank(m, old) }
			if got, e := minors.Delete(m, s); e != api.OK || !hasRanks(got, kept, alone) {
				t.Errorf("Delete(%v, %d) = %v, %d", m, s, got, e)
			}
			beside := func(old int) int { return probe.Rank(m, old|s) - probe.Rank(m, s) }
			if got, e := minors.Contract(m, s); e != api.OK || !hasRanks(got, kept, beside) {
				t.Errorf("Contract(%v, %d) = %v, %d", m, s, got, e)
			}
		}
	}
}

// TestTurned: to contract is to delete in the Dual.
func TestTurned(t *testing.T) {
	dual := func(m api.Matroid) api.Matroid {
		d, e := minors.Dual(m)
		return sure(t, d, e)
	}
	for _, m := range probe.Matroids() {
		for s := range 1 << m.N {
			deleted, e := minors.Delete(dual(m), s)
			sure(t, deleted, e)
			if got, e := minors.Contract(m, s); e != api.OK || !probe.Equal(got, dual(deleted)) {
				t.Errorf("Contract(%v, %d) = %v, %d, want %v", m, s, got, e, dual(deleted))
			}
		}
	}
}

func holdSum(t *testing.T, a, b api.Matroid) {
	t.Helper()
	want := probe.WithIndependents(a.N+b.N, func(s int) bool {
		ofA, ofB := 0, 0
		for _, x := range probe.Elements(s) {
			if x < a.N {
				ofA |= 1 << x
			} else {
				ofB |= 1 << (x - a.N)
			}
		}
		return probe.Independent(a, ofA) && probe.Independent(b, ofB)
	})
	if got, e := minors.Sum(a, b); e != api.OK || !probe.Equal(got, want) {
		t.Errorf("Sum(%v, %v) = %v, %d, want %v", a, b, got, e, want)
	}
}

func TestSum(t *testing.T) {
	var few []api.Matroid
	for n := range 4 {
		few = append(few, probe.All(n)...)
	}
	for _, a := range few {
		for _, b := range few {
			holdSum(t, a, b)
		}
		for i, b := range probe.All(5) {
			if i%9 == 0 {
				holdSum(t, a, b)
				holdSum(t, b, a)
			}
		}
	}
	for _, a := range probe.Known() {
		for _, b := range few {
			if a.N+b.N <= 8 {
				holdSum(t, a, b)
				holdSum(t, b, a)
			}
		}
	}
	holdSum(t, probe.Uniform(2, 4), probe.Uniform(1, 4))
	holdSum(t, probe.Uniform(0, 4), probe.Uniform(4, 4))
}

func TestSumLarge(t *testing.T) {
	for n := range 9 {
		for k := range 9 {
			got, e := minors.Sum(probe.Uniform(n/2, n), probe.Uniform(k, k))
			if n+k <= 8 && (e != api.OK || got.N != n+k) {
				t.Errorf("Sum of %d and %d elements is %v, %d", n, k, got, e)
			}
			if n+k > 8 && (e != api.ErrLarge || got.N != 0 || len(got.Bases) != 0) {
				t.Errorf("Sum of %d and %d elements is %v, %d, want %d", n, k, got, e, api.ErrLarge)
			}
		}
	}
}

func TestTruncate(t *testing.T) {
	for _, m := range probe.Matroids() {
		whole := probe.Rank(m, 1<<m.N-1)
		for rank := range whole + 1 {
			want := probe.WithIndependents(m.N, func(s int) bool {
				return probe.Independent(m, s) && len(probe.Elements(s)) <= rank
			})
			if got, e := minors.Truncate(m, rank); e != api.OK || !probe.Equal(got, want) {
				t.Errorf("Truncate(%v, %d) = %v, %d, want %v", m, rank, got, e, want)
			}
		}
		for _, rank := range append(probe.Wide(), whole+1) {
			if rank >= 0 && rank <= whole {
				continue
			}
			if got, e := minors.Truncate(m, rank); e != api.ErrArg || got.N != 0 || len(got.Bases) != 0 {
				t.Errorf("Truncate(%v, %d) = %v, %d, want %d", m, rank, got, e, api.ErrArg)
			}
		}
	}
}

// TestMinorsEdges holds answers that were found by hand.
func TestMinorsEdges(t *testing.T) {
	nothing, loops, whole := probe.Uniform(0, 0), probe.Uniform(0, 8), probe.Uniform(8, 8)
	dual := func(m api.Matroid, _ int) (api.Matroid, api.Errno) { return minors.Dual(m) }
	for i, x := range []struct {
		do   func(m api.Matroid, s int) (api.Matroid, api.Errno)
		m    api.Matroid
		s    int
		want api.Matroid
	}{
		{dual, nothing, 0, nothing},
		{dual, loops, 0, whole},
		{dual, whole, 0, loops},
		{dual, probe.Uniform(2, 4), 0, probe.Uniform(2, 4)},
		{dual, api.Matroid{N: 3, Bases: []int{1, 4}}, 0, api.Matroid{N: 3, Bases: []int{3, 6}}},
		{minors.Delete, nothing, 0, nothing},
		{minors.Delete, whole, 0, whole},
		{minors.Delete, whole, 255, nothing},
		{minors.Delete, whole, 254, probe.Uniform(1, 1)},
		{minors.Delete, loops, 127, probe.Uniform(0, 1)},
		// The rank goes down, as the element is in every basis.
		{minors.Delete, api.Matroid{N: 3, Bases: []int{3, 6}}, 2, api.Matroid{N: 2, Bases: []int{1, 2}}},
		{minors.Delete, probe.Uniform(2, 4), 8, probe.Uniform(2, 3)},
		{minors.Delete, probe.Uniform(2, 4), 7, probe.Uniform(1, 1)},
		{minors.Contract, nothing, 0, nothing},
		{minors.Contract, whole, 0, whole},
		{minors.Contract, whole, 255, nothing},
		{minors.Contract, loops, 1, probe.Uniform(0, 7)},
		{minors.Contract, probe.Uniform(2, 4), 8, probe.Uniform(1, 3)},
		{minors.Contract, probe.Uniform(2, 4), 7, probe.Uniform(0, 1)},
		// A parallel element becomes a loop.
		{minors.Contract, api.Matroid{N: 3, Bases: []int{3, 6}}, 1, api.Matroid{N: 2, Bases: []int{1}}},
		{minors.Truncate, nothing, 0, nothing},
		{minors.Truncate, whole, 0, loops},
		{minors.Truncate, whole, 3, probe.Uniform(3, 8)},
		{minors.Truncate, whole, 8, whole},
		{minors.Truncate, loops, 0, loops},
		{minors.Truncate, api.Matroid{N: 3, Bases: []int{3, 6}}, 1, probe.Uniform(1, 3)},
	} {
		if got, e := x.do(x.m, x.s); e != api.OK || !probe.Equal(got, x.want) {
			t.Errorf("%d: of %v and %d comes %v, %d, want %v", i, x.m, x.s, got, e, x.want)
		}
	}
}

func TestSumEdges(t *testing.T) {
	nothing := probe.Uniform(0, 0)
	for _, x := range []struct{ a, b, want api.Matroid }{
		{nothing, nothing, nothing},
		{nothing, probe.Uniform(3, 8), probe.Uniform(3, 8)},
		{probe.Uniform(3, 8), nothing, probe.Uniform(3, 8)},
		{probe.Uniform(4, 4), probe.Uniform(4, 4), probe.Uniform(8, 8)},
		{probe.Uniform(0, 1), probe.Uniform(1, 1), api.Matroid{N: 2, Bases: []int{2}}},
		{probe.Uniform(1, 1), probe.Uniform(0, 1), api.Matroid{N: 2, Bases: []int{1}}},
		{probe.Uniform(1, 2), probe.Uniform(1, 2), api.Matroid{N: 4, Bases: []int{5, 6, 9, 10}}},
		{probe.Uniform(1, 2), probe.Uniform(2, 3), api.Matroid{N: 5, Bases: []int{13, 14, 21, 22, 25, 26}}},
	} {
		if got, e := minors.Sum(x.a, x.b); e != api.OK || !probe.Equal(got, x.want) {
			t.Errorf("Sum(%v, %v) = %v, %d, want %v", x.a, x.b, got, e, x.want)
		}
	}
}
