package meet_test

import (
	"slices"
	"testing"

	"rota/api"
	"rota/axioms"
	"rota/meet"
	"rota/probe"
)

// mayCome: has s not x, and is the rank of s with x no more in a, or in b?
func mayCome(a, b api.Matroid, s, x int) bool {
	more := s | 1<<x
	return s>>x&1 == 0 && (probe.Rank(a, more) == probe.Rank(a, s) || probe.Rank(b, more) == probe.Rank(b, s))
}

// comeTo s, one by one: of those that may come always the first of the order.
func comeTo(a, b api.Matroid, s int, order []int) int {
	for {
		i := slices.IndexFunc(order, func(x int) bool { return mayCome(a, b, s, x) })
		if i < 0 {
			return s
		}
		s |= 1 << order[i]
	}
}

// holdSpanned holds a and b to the words of P20, by more than one order.
func holdSpanned(t *testing.T, a, b api.Matroid, s int) {
	t.Helper()
	up := rising(a.N)
	down := slices.Clone(up)
	slices.Reverse(down)
	for _, order := range [][]int{up, down} {
		want := comeTo(a, b, s, order)
		if got, e := meet.Spanned(a, b, s); e != api.OK || got != want {
			t.Errorf("Spanned(%v, %v, %d) = %d, %d, want %d", a, b, s, got, e, want)
		}
	}
}

func TestSpanned(t *testing.T) {
	for n := range 4 {
		smallPairs(n, func(a, b api.Matroid) {
			for s := range 1 << n {
				holdSpanned(t, a, b, s)
			}
		})
	}
	var jumps probe.Jumps
	hold := func(a, b api.Matroid) {
		for range 3 {
			holdSpanned(t, a, b, jumps.Next(1<<a.N))
		}
		holdSpanned(t, a, b, 1<<jumps.Next(a.N))
		holdSpanned(t, a, b, 0)
	}
	smallPairs(4, hold)
	largePairs(hold)
}

// TestSpannedEdges holds answers that were found by hand.
func TestSpannedEdges(t *testing.T) {
	// In a 0 and 1, 2 and 3, 4 and 5, 6 and 7 are parallel, in b 1 and 2, 3
	// and 4, 5 and 6: each brings the next one.
	var inA, inB []int
	for s := range 256 {
		couples := []int{s & 3, s & 12, s & 48, s & 192}
		if !slices.Contains(couples, 0) && count(s) == 4 {
			inA = append(inA, s)
		}
		between := []int{s & 1, s & 6, s & 24, s & 96, s & 128}
		if !slices.Contains(between, 0) && count(s) == 5 {
			inB = append(inB, s)
		}
	}
	chainA, chainB := api.Matroid{N: 8, Bases: inA}, api.Matroid{N: 8, Bases: inB}
	for _, x := range []struct {
		a, b    api.Matroid
		s, want int
	}{
		{probe.Uniform(0, 0), probe.Uniform(0, 0), 0, 0},
		{probe.Uniform(1, 1), probe.Uniform(1, 1), 0, 0},
		{probe.Uniform(1, 1), probe.Uniform(1, 1), 1, 1},
		// A loop of either comes to no elements, too.
		{probe.Uniform(0, 1), probe.Uniform(1, 1), 0, 1},
		{probe.Uniform(1, 1), probe.Uniform(0, 1), 0, 1},
		{probe.Uniform(8, 8), probe.Uniform(8, 8), 0, 0},
		{probe.Uniform(8, 8), probe.Uniform(8, 8), 170, 170},
		{probe.Uniform(8, 8), probe.Uniform(8, 8), 255, 255},
		{probe.Uniform(2, 4), probe.Uniform(2, 4), 3, 15},
		{probe.Uniform(2, 4), probe.Uniform(2, 4), 8, 8},
		{probe.Uniform(2, 4), probe.Uniform(1, 4), 8, 15},
		{probe.Uniform(1, 4), probe.Uniform(2, 4), 8, 15},
		{probe.Uniform(2, 4), probe.Uniform(3, 4), 8, 8},
		{chainA, chainB, 0, 0},
		{chainA, chainB, 1, 255},
		{chainA, chainB, 128, 255},
		{chainB, chainA, 1, 255},
		{chainB, chainA, 128, 255},
		{chainA, chainA, 1 + 64, 3 + 192},
		// 3 comes, since 0, 1 and 3 are a ring, and is all; but where 5 is a
		// loop it comes, and with it the other edges.
		{probe.K4(), probe.Uniform(6, 6), 3, 11},
		{probe.K4(), api.Matroid{N: 6, Bases: []int{31}}, 3, 63},
	} {
		if got, e := meet.Spanned(x.a, x.b, x.s); e != api.OK || got != x.want {
			t.Errorf("Spanned(%v, %v, %d) = %d, %d, want %d", x.a, x.b, x.s, got, e, x.want)
		}
	}
}

// TestSpannedIsClosed: nothing more comes in a or in b, nothing is lost, and
// what is spanned twice is as it was.
func TestSpannedIsClosed(t *testing.T) {
	largePairs(func(a, b api.Matroid) {
		for s := 0; s < 1<<a.N; s += 17 {
			got, e := meet.Spanned(a, b, s)
			inA, _ := axioms.Closure(a, got)
			inB, _ := axioms.Closure(b, got)
			twice, _ := meet.Spanned(a, b, got)
			if e != api.OK || got&s != s || inA != got || inB != got || twice != got {
				t.Errorf("Spanned(%v, %v, %d) = %d, %d, but closed it is %d and %d, and spanned %d", a, b, s, got, e, inA, inB, twice)
			}
		}
	})
}

func TestSpannedOfNoSets(t *testing.T) {
	for _, m := range probe.Matroids() {
		for _, s := range append(probe.Wide(), 1<<m.N, 1<<m.N+1, -1<<m.N) {
			got := spanned(m, beside(m), s)
			if s < 0 || s >= 1<<m.N {
				if !isRefusal(got, api.ErrArg) {
					t.Errorf("Spanned(%v, %v, %d) = %v, want %d", m, beside(m), s, got, api.ErrArg)
				}
			} else if got.e != api.OK {
				t.Errorf("Spanned(%v, %v, %d) = %v", m, beside(m), s, got)
			}
		}
	}
}
