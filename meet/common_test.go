package meet_test

import (
	"testing"

	"rota/api"
	"rota/join"
	"rota/meet"
	"rota/minors"
	"rota/probe"
)

// smallPairs of matroids of n elements each: all of them.
func smallPairs(n int, visit func(a, b api.Matroid)) {
	all := probe.All(n)
	for _, a := range all {
		for _, b := range all {
			visit(a, b)
		}
	}
}

// largePairs of matroids of five elements and more, as many each: such as
// jump about, known ones, and known ones with other names.
func largePairs(visit func(a, b api.Matroid)) {
	var jumps probe.Jumps
	all := probe.All(5)
	for range 1000 {
		visit(all[jumps.Next(len(all))], all[jumps.Next(len(all))])
	}
	known := probe.Known()
	for _, a := range known {
		orders := probe.SomeOrders(a.N)
		for _, b := range known {
			if a.N == b.N {
				visit(a, b)
				visit(a, probe.Renamed(b, orders[jumps.Next(len(orders))]))
			}
		}
	}
}

// inBoth: the sets that are independent in a and in b, rising.
func inBoth(a, b api.Matroid) []int {
	var l []int
	for s := range 1 << a.N {
		if probe.Independent(a, s) && probe.Independent(b, s) {
			l = append(l, s)
		}
	}
	return l
}

func count(s int) int { return len(probe.Elements(s)) }

// most: how many elements a set of l has at most.
func most(l []int) int {
	n := 0
	for _, s := range l {
		n = max(n, count(s))
	}
	return n
}

// firstOf the sets of n elements that is as is asked for; -1, if none is.
func firstOf(n int, is func(s int) bool) int {
	for s := range 1 << n {
		if is(s) {
			return s
		}
	}
	return -1
}

// holdCommon holds a and b to the words of P20.
func holdCommon(t *testing.T, a, b api.Matroid) {
	t.Helper()
	n := most(inBoth(a, b))
	set := firstOf(a.N, func(s int) bool {
		return count(s) == n && probe.Independent(a, s) && probe.Independent(b, s)
	})
	bars := func(u int) int { return probe.Rank(a, u) + probe.Rank(b, 1<<a.N-1-u) }
	bar := firstOf(a.N, func(u int) bool { return bars(u) == n })
	if s, u, e := meet.Common(a, b); e != api.OK || s != set || u != bar {
		t.Errorf("Common(%v, %v) = %d, %d, %d, want %d, %d", a, b, s, u, e, set, bar)
	}
	if u := firstOf(a.N, func(u int) bool { return bars(u) < n }); u >= 0 {
		t.Errorf("of %v and %v %d has less than %d", a, b, u, n)
	}
}

func TestCommon(t *testing.T) {
	hold := func(a, b api.Matroid) { holdCommon(t, a, b) }
	for n := range 5 {
		smallPairs(n, hold)
	}
	largePairs(hold)
}

// TestCommonEdges holds answers that were found by hand.
func TestCommonEdges(t *testing.T) {
	k4 := probe.K4()
	dual, _ := minors.Dual(k4)
	for _, x := range []struct {
		a, b     api.Matroid
		set, bar int
	}{
		{probe.Uniform(0, 0), probe.Uniform(0, 0), 0, 0},
		{probe.Uniform(1, 1), probe.Uniform(1, 1), 1, 0},
		// The rank in b of all is 1, so U must have the one element.
		{probe.Uniform(0, 1), probe.Uniform(1, 1), 0, 1},
		{probe.Uniform(1, 1), probe.Uniform(0, 1), 0, 0},
		{probe.Uniform(8, 8), probe.Uniform(8, 8), 255, 0},
		{probe.Uniform(0, 8), probe.Uniform(8, 8), 0, 255},
		{probe.Uniform(8, 8), probe.Uniform(0, 8), 0, 0},
		{probe.Uniform(3, 8), probe.Uniform(5, 8), 7, 255},
		{probe.Uniform(5, 8), probe.Uniform(3, 8), 7, 0},
		{probe.Uniform(2, 4), probe.Uniform(2, 4), 3, 0},
		// Each element is a loop of one of them: U has the loops of a.
		{api.Matroid{N: 4, Bases: []int{1, 2}}, api.Matroid{N: 4, Bases: []int{4, 8}}, 0, 12},
		{api.Matroid{N: 4, Bases: []int{4, 8}}, api.Matroid{N: 4, Bases: []int{1, 2}}, 0, 3},
		// In a 0 and 1 are parallel, in b 1 and 2: 0 and 2 are left.
		{api.Matroid{N: 3, Bases: []int{5, 6}}, api.Matroid{N: 3, Bases: []int{3, 5}}, 5, 0},
		// 0 is a loop of b; 1 and 2 are parallel in both.
		{api.Matroid{N: 3, Bases: []int{3, 5}}, api.Matroid{N: 3, Bases: []int{2, 4}}, 2, 0},
		// U is neither none nor all: in a 0, 1 and 2 are parallel, in b 3 and 4.
		{api.Matroid{N: 5, Bases: []int{25, 26, 28}}, api.Matroid{N: 5, Bases: []int{15, 23}}, 9, 7},
		{k4, k4, 7, 0},
		// Of the tree 0, 2, 3 the edges that are left are a tree.
		{k4, dual, 13, 0},
	} {
		if s, u, e := meet.Common(x.a, x.b); e != api.OK || s != x.set || u != x.bar {
			t.Errorf("Common(%v, %v) = %d, %d, %d, want %d, %d", x.a, x.b, s, u, e, x.set, x.bar)
		}
	}
}

// TestCommonByUnion: what the largest common set has is what the Union of a
// with the Dual of b has beyond that Dual.
func TestCommonByUnion(t *testing.T) {
	hold := func(a, b api.Matroid) {
		dual, _ := minors.Dual(b)
		union, _ := join.Union(a, dual)
		want := count(union.Bases[0]) - count(dual.Bases[0])
		if s, _, e := meet.Common(a, b); e != api.OK || count(s) != want {
			t.Errorf("Common(%v, %v) = %d, %d, want one of %d elements", a, b, s, e, want)
		}
	}
	for n := range 5 {
		smallPairs(n, hold)
	}
	largePairs(hold)
}

// TestCommonEitherWay: the set is the same whichever is first, and with the
// same matroid twice it is its least basis.
func TestCommonEitherWay(t *testing.T) {
	smallPairs(4, func(a, b api.Matroid) {
		one, _, _ := meet.Common(a, b)
		if other, _, e := meet.Common(b, a); e != api.OK || other != one {
			t.Errorf("Common(%v, %v) = %d, and the other way round %d, %d", a, b, one, other, e)
		}
	})
	for _, m := range probe.Matroids() {
		if s, u, e := meet.Common(m, m); e != api.OK || s != m.Bases[0] || u != 0 {
			t.Errorf("Common of %v twice = %d, %d, %d", m, s, u, e)
		}
	}
}
