package greedy_test

import (
	"math/bits"
	"slices"
	"testing"

	"rota/api"
	"rota/greedy"
	"rota/probe"
)

// eachPair of bases: all where there are few, and some where there are many.
func eachPair(m api.Matroid, do func(a, b int)) {
	if len(m.Bases) <= 10 {
		for _, a := range m.Bases {
			for _, b := range m.Bases {
				do(a, b)
			}
		}
		return
	}
	var jumps probe.Jumps
	for range 30 {
		do(m.Bases[jumps.Next(len(m.Bases))], m.Bases[jumps.Next(len(m.Bases))])
	}
	do(m.Bases[0], m.Bases[len(m.Bases)-1])
	do(m.Bases[len(m.Bases)-1], m.Bases[0])
	do(m.Bases[0], m.Bases[0])
}

// swapped: the least y for x, by the words of P17 (-1, if there is none).
func swapped(m api.Matroid, a, b, x int) int {
	for y := range 1 << m.N {
		if y&b == y && y&a == 0 && bits.OnesCount(uint(y)) == bits.OnesCount(uint(x)) &&
			slices.Contains(m.Bases, a-x+y) && slices.Contains(m.Bases, b-y+x) {
			return y
		}
	}
	return -1
}

// TestSwap asks for all sets x of a, and beside it: those that it may not be
// are refused.
func TestSwap(t *testing.T) {
	for _, m := range probe.Matroids() {
		eachPair(m, func(a, b int) {
			for x := range 1 << m.N {
				if x&a != x || x&b != 0 {
					if got := swap(m, a, b, x); !isRefusal(got, api.ErrShape) {
						t.Errorf("Swap(%v, %d, %d, %d) = %v, want %d", m, a, b, x, got, api.ErrShape)
					}
					continue
				}
				want := swapped(m, a, b, x)
				if got, e := greedy.Swap(m, a, b, x); e != api.OK || got != want {
					t.Errorf("Swap(%v, %d, %d, %d) = %d, %d, want %d", m, a, b, x, got, e, want)
				}
			}
		})
	}
}

func TestSwapEdges(t *testing.T) {
	pairs, k4 := probe.Uniform(2, 4), probe.K4()
	for _, x := range []struct {
		m          api.Matroid
		a, b, x, y int
		want       api.Errno
	}{
		{pairs, 3, 12, 1, 4, api.OK},
		{pairs, 3, 12, 0, 0, api.OK},
		{pairs, 3, 12, 3, 12, api.OK},
		{pairs, 3, 3, 0, 0, api.OK},
		{pairs, 3, 5, 2, 4, api.OK},
		{pairs, 3, 5, 1, 0, api.ErrShape},
		{pairs, 3, 12, 4, 0, api.ErrShape},
		{pairs, 3, 12, 16, 0, api.ErrShape},
		{pairs, 3, 12, 17, 0, api.ErrShape},
		{pairs, 3, 12, -1, 0, api.ErrShape},
		{pairs, 3, 12, -4, 0, api.ErrShape},
		// 0 and 1, and 2 and 3, are parallel: 0 can be had for 1 alone, 3 for 2.
		{api.Matroid{N: 4, Bases: []int{5, 6, 9, 10}}, 9, 6, 1, 2, api.OK},
		{api.Matroid{N: 4, Bases: []int{5, 6, 9, 10}}, 9, 6, 8, 4, api.OK},
		{probe.Uniform(0, 0), 0, 0, 0, 0, api.OK},
		{probe.Uniform(0, 0), 0, 0, 1, 0, api.ErrShape},
		{probe.Uniform(8, 8), 255, 255, 0, 0, api.OK},
		{probe.Uniform(4, 8), 15, 240, 15, 240, api.OK},
		{probe.Uniform(4, 8), 240, 15, 160, 3, api.OK},
		// The edges at 0, and those at 1: 02 goes for 12 alone, 03 for 13 alone.
		{k4, 7, 25, 2, 8, api.OK},
		{k4, 7, 25, 4, 16, api.OK},
		{k4, 7, 25, 6, 24, api.OK},
	} {
		if got, e := greedy.Swap(x.m, x.a, x.b, x.x); e != x.want || got != x.y {
			t.Errorf("Swap(%v, %d, %d, %d) = %d, %d, want %d, %d", x.m, x.a, x.b, x.x, got, e, x.y, x.want)
		}
	}
}

// climbed: the rungs from a to b, by the words of P17, element by element.
func climbed(m api.Matroid, a, b int) []int {
	rungs := []int{a}
	for a != b {
		goes := slices.IndexFunc(probe.Elements(a), func(i int) bool { return b>>i&1 == 0 })
		less := a - 1<<probe.Elements(a)[goes]
		comes := slices.IndexFunc(probe.Elements(b), func(i int) bool {
			return a>>i&1 == 0 && slices.Contains(m.Bases, less+1<<i)
		})
		a = less + 1<<probe.Elements(b)[comes]
		rungs = append(rungs, a)
	}
	return rungs
}

func TestLadder(t *testing.T) {
	for _, m := range probe.Matroids() {
		eachPair(m, func(a, b int) {
			want := climbed(m, a, b)
			if got, e := greedy.Ladder(m, a, b); e != api.OK || !slices.Equal(got, want) {
				t.Errorf("Ladder(%v, %d, %d) = %v, %d, want %v", m, a, b, got, e, want)
			}
		})
	}
}

func TestLadderEdges(t *testing.T) {
	for _, x := range []struct {
		m    api.Matroid
		a, b int
		want []int
	}{
		{probe.Uniform(2, 4), 3, 12, []int{3, 6, 12}},
		{probe.Uniform(2, 4), 12, 3, []int{12, 9, 3}},
		{probe.Uniform(2, 4), 5, 5, []int{5}},
		{probe.Uniform(0, 0), 0, 0, []int{0}},
		{probe.Uniform(0, 8), 0, 0, []int{0}},
		{probe.Uniform(8, 8), 255, 255, []int{255}},
		{probe.Uniform(4, 8), 15, 240, []int{15, 30, 60, 120, 240}},
		// The lesser of what is missing does not always do: 0 goes for its
		// parallel element 3.
		{api.Matroid{N: 4, Bases: []int{3, 5, 10, 12}}, 3, 12, []int{3, 10, 12}},
	} {
		if got, e := greedy.Ladder(x.m, x.a, x.b); e != api.OK || !slices.Equal(got, x.want) {
			t.Errorf("Ladder(%v, %d, %d) = %v, %d, want %v", x.m, x.a, x.b, got, e, x.want)
		}
	}
}

// ring: all circuits that have i, and else elements of b.
func ring(m api.Matroid, b, i int) []int {
	var l []int
	for s := range 1 << m.N {
		if s>>i&1 == 1 && s&^b == 1<<i && probe.Circuit(m, s) {
			l = append(l, s)
		}
	}
	return l
}

func TestFundamental(t *testing.T) {
	for _, m := range probe.Matroids() {
		for _, b := range m.Bases {
			for _, i := range append(probe.Wide(), -2, 4, 5) {
				if i < 0 || i >= m.N || b>>i&1 == 1 {
					if got := fundamental(m, b, i); !isRefusal(got, api.ErrShape) {
						t.Errorf("Fundamental(%v, %d, %d) = %v, want %d", m, b, i, got, api.ErrShape)
					}
					continue
				}
				want := ring(m, b, i)
				if got, e := greedy.Fundamental(m, b, i); e != api.OK || !slices.Equal(want, []int{got}) {
					t.Errorf("Fundamental(%v, %d, %d) = %d, %d, want %v", m, b, i, got, e, want)
				}
			}
		}
	}
}

func TestFundamentalEdges(t *testing.T) {
	for _, x := range []struct {
		m          api.Matroid
		b, i, ring int
		want       api.Errno
	}{
		{probe.Uniform(2, 4), 3, 2, 7, api.OK},
		{probe.Uniform(2, 4), 3, 3, 11, api.OK},
		{probe.Uniform(2, 4), 3, 1, 0, api.ErrShape},
		{probe.Uniform(2, 4), 3, 4, 0, api.ErrShape},
		{probe.Uniform(2, 4), 3, -1, 0, api.ErrShape},
		{probe.Uniform(0, 0), 0, 0, 0, api.ErrShape},
		{probe.Uniform(8, 8), 255, 8, 0, api.ErrShape},
		// A loop is a ring of its own.
		{probe.Uniform(0, 8), 0, 7, 128, api.OK},
		{probe.Uniform(7, 8), 127, 7, 255, api.OK},
		{probe.Uniform(1, 8), 128, 0, 129, api.OK},
		{api.Matroid{N: 3, Bases: []int{3, 5}}, 3, 2, 6, api.OK},
		{probe.K4(), 7, 3, 11, api.OK},
		{probe.K4(), 7, 5, 38, api.OK},
	} {
		if got, e := greedy.Fundamental(x.m, x.b, x.i); e != x.want || got != x.ring {
			t.Errorf("Fundamental(%v, %d, %d) = %d, %d, want %d, %d", x.m, x.b, x.i, got, e, x.ring, x.want)
		}
	}
}

// TestNoBases: what is no basis is refused ahead of what else is wrong.
func TestNoBases(t *testing.T) {
	for _, m := range probe.Matroids() {
		b := m.Bases[len(m.Bases)/2]
		for _, s := range append(probe.Wide(), b^1, b|128, 11, 13, 14, 1<<m.N|b) {
			if slices.Contains(m.Bases, s) {
				continue
			}
			for name, got := range map[string]answer{
				"Swap, first": swap(m, s, b, 0), "Swap, second": swap(m, b, s, 0), "Swap, both": swap(m, s, s, 0),
				"Swap, first, no set": swap(m, s, b, -1), "Swap, second, no set": swap(m, b, s, -1),
				"Ladder, first": ladder(m, s, b), "Ladder, second": ladder(m, b, s), "Ladder, both": ladder(m, s, s),
				"Fundamental": fundamental(m, s, 0), "Fundamental, last": fundamental(m, s, m.N-1),
				"Fundamental, no element": fundamental(m, s, -1), "Fundamental, beyond": fundamental(m, s, m.N),
			} {
				if !isRefusal(got, api.ErrArg) {
					t.Errorf("%s: %v, basis %d, none %d: %v, want %d", name, m, b, s, got, api.ErrArg)
				}
			}
		}
	}
}
