package join_test

import (
	"math/bits"
	"slices"
	"testing"

	"rota/api"
	"rota/join"
	"rota/probe"
)

// cuts of n elements into sets, all of them: each element comes to one of the
// sets that there are, or begins one, so the sets stand in the order of their
// least elements.
func cuts(n int) [][]int {
	all := [][]int{nil}
	for x := range n {
		var more [][]int
		for _, l := range all {
			for i := range l {
				with := slices.Clone(l)
				with[i] += 1 << x
				more = append(more, with)
			}
			more = append(more, append(slices.Clone(l), 1<<x))
		}
		all = more
	}
	return all
}

// shortest: of these lists the shortest, and of several the first.
func shortest(a, b []int) int {
	if len(a) != len(b) {
		return len(a) - len(b)
	}
	return slices.Compare(a, b)
}

func hasLoop(m api.Matroid) bool {
	for x := range m.N {
		if !probe.Independent(m, 1<<x) {
			return true
		}
	}
	return false
}

// covered: Cover's list, by the words of P18.
func covered(m api.Matroid, all [][]int) []int {
	can := slices.DeleteFunc(slices.Clone(all), func(l []int) bool {
		return slices.ContainsFunc(l, func(s int) bool { return !probe.Independent(m, s) })
	})
	return slices.MinFunc(can, shortest)
}

func TestCover(t *testing.T) {
	all := make([][][]int, 9)
	for n := range all {
		all[n] = cuts(n)
	}
	for _, m := range probe.Matroids() {
		if hasLoop(m) {
			if got := cover(m); !isRefusal(got, api.ErrNone) {
				t.Errorf("Cover(%v) = %v, want %d", m, got, api.ErrNone)
			}
			continue
		}
		want := covered(m, all[m.N])
		if got, e := join.Cover(m); e != api.OK || !slices.Equal(got, want) {
			t.Errorf("Cover(%v) = %v, %d, want %v", m, got, e, want)
		}
	}
}

// TestCuts: these are as many as Bell counted.
func TestCuts(t *testing.T) {
	for n, want := range []int{1, 1, 2, 5, 15, 52, 203, 877, 4140} {
		if got := len(cuts(n)); got != want {
			t.Errorf("%d elements: %d, want %d", n, got, want)
		}
	}
}

// up: a over b, rounded up.
func up(a, b int) int {
	n := 0
	for n*b < a {
		n++
	}
	return n
}

// down: a over b, rounded down.
func down(a, b int) int {
	n := 0
	for (n+1)*b <= a {
		n++
	}
	return n
}

// density of s, rounded up.
func density(m api.Matroid, s int) int {
	return up(bits.OnesCount(uint(s)), probe.Rank(m, s))
}

// densest: Dense's set, by the words of P18.
func densest(m api.Matroid) int {
	var l []int
	for s := 1; s < 1<<m.N; s++ {
		l = append(l, s)
	}
	if len(l) == 0 {
		return 0
	}
	return slices.MaxFunc(l, func(a, b int) int { return density(m, a) - density(m, b) })
}

func TestDense(t *testing.T) {
	for _, m := range probe.Matroids() {
		if hasLoop(m) {
			if got := dense(m); !isRefusal(got, api.ErrNone) {
				t.Errorf("Dense(%v) = %v, want %d", m, got, api.ErrNone)
			}
			continue
		}
		want := densest(m)
		if got, e := join.Dense(m); e != api.OK || got != want {
			t.Errorf("Dense(%v) = %d, %d, want %d", m, got, e, want)
		}
	}
}

// TestCoverIsBarred: no set is so dense that there are fewer sets than Cover
// has, and one is that dense.
func TestCoverIsBarred(t *testing.T) {
	for _, m := range probe.Matroids() {
		l, e := join.Cover(m)
		s, also := join.Dense(m)
		if e != also {
			t.Errorf("%v: Cover says %d, Dense %d", m, e, also)
		}
		if e != api.OK || m.N == 0 {
			continue
		}
		if want := density(m, s); len(l) != want {
			t.Errorf("Cover(%v) = %v, Dense %d, which wants %d", m, l, s, want)
		}
	}
}

// TestCoverEdges holds answers that were found by hand.
func TestCoverEdges(t *testing.T) {
	for _, x := range []struct {
		m     api.Matroid
		cover []int
		dense int
		want  api.Errno
	}{
		{probe.Uniform(2, 4), []int{3, 12}, 7, api.OK},
		{probe.Uniform(0, 0), nil, 0, api.OK},
		{probe.Uniform(1, 1), []int{1}, 1, api.OK},
		{probe.Uniform(0, 1), nil, 0, api.ErrNone},
		{probe.Uniform(0, 8), nil, 0, api.ErrNone},
		{probe.Uniform(8, 8), []int{255}, 1, api.OK},
		{probe.Uniform(1, 8), []int{1, 2, 4, 8, 16, 32, 64, 128}, 255, api.OK},
		{probe.Uniform(7, 8), []int{1, 254}, 255, api.OK},
		// As few as may be, but the first of them is as little as may be.
		{probe.Uniform(2, 5), []int{1, 6, 24}, 31, api.OK},
		{probe.Uniform(3, 5), []int{3, 28}, 15, api.OK},
		{probe.Uniform(3, 7), []int{1, 14, 112}, 127, api.OK},
		// One loop among others.
		{api.Matroid{N: 3, Bases: []int{3}}, nil, 0, api.ErrNone},
		{api.Matroid{N: 3, Bases: []int{6}}, nil, 0, api.ErrNone},
		{api.Matroid{N: 4, Bases: []int{3, 5}}, nil, 0, api.ErrNone},
		// 0 and 1 are parallel; then 2 and 3 as well.
		{api.Matroid{N: 3, Bases: []int{5, 6}}, []int{1, 6}, 3, api.OK},
		{api.Matroid{N: 4, Bases: []int{5, 6, 9, 10}}, []int{5, 10}, 3, api.OK},
		// 1 and 2 are parallel, so the ring of all three is not the least.
		{api.Matroid{N: 3, Bases: []int{3, 5}}, []int{3, 4}, 6, api.OK},
		// The edges at one vertex leave a ring, so no tree is a star.
		{probe.K4(), []int{13, 50}, 11, api.OK},
		// Seven points in three sets: one point, and two bases.
		{probe.Fano(), []int{1, 14, 112}, 127, api.OK},
	} {
		if got, e := join.Cover(x.m); e != x.want || !slices.Equal(got, x.cover) {
			t.Errorf("Cover(%v) = %v, %d, want %v, %d", x.m, got, e, x.cover, x.want)
		}
		if got, e := join.Dense(x.m); e != x.want || got != x.dense {
			t.Errorf("Dense(%v) = %d, %d, want %d, %d", x.m, got, e, x.dense, x.want)
		}
	}
}
