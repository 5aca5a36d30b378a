package join_test

import (
	"slices"
	"testing"

	"rota/api"
	"rota/join"
	"rota/probe"
)

// together: the sets that are one independent in a and one independent in b
// together, which may have elements in common.
func together(a, b api.Matroid) []bool {
	is := make([]bool, 1<<a.N)
	for s := range is {
		if !probe.Independent(a, s) {
			continue
		}
		for t := range is {
			if probe.Independent(b, t) {
				is[s|t] = true
			}
		}
	}
	return is
}

// holdUnion holds a and b to the words of P18.
func holdUnion(t *testing.T, a, b api.Matroid) {
	t.Helper()
	is := together(a, b)
	want := probe.WithIndependents(a.N, func(s int) bool { return is[s] })
	got, e := join.Union(a, b)
	if e != api.OK || !probe.Equal(got, want) || !probe.Exchange(got.Bases) {
		t.Errorf("Union(%v, %v) = %v, %d, want %v", a, b, got, e, want)
	}
	for s, want := range is {
		if probe.Independent(got, s) != want {
			t.Errorf("Union(%v, %v): independent is %d: %v, want %v", a, b, s, !want, want)
		}
	}
}

func TestUnion(t *testing.T) {
	for n := range 5 {
		all := probe.All(n)
		for _, a := range all {
			for _, b := range all {
				holdUnion(t, a, b)
			}
		}
	}
}

// TestUnionOfMore: of more elements pairs that jump about.
func TestUnionOfMore(t *testing.T) {
	var jumps probe.Jumps
	all := probe.All(5)
	for range 300 {
		holdUnion(t, all[jumps.Next(len(all))], all[jumps.Next(len(all))])
	}
	known := probe.Known()
	for _, a := range known {
		for _, b := range known {
			if a.N == b.N && jumps.Next(3) == 0 {
				holdUnion(t, a, b)
			}
		}
		holdUnion(t, a, a)
		holdUnion(t, a, probe.Renamed(a, probe.SomeOrders(a.N)[jumps.Next(20)]))
	}
}

// TestUnionEdges holds answers that were found by hand.
func TestUnionEdges(t *testing.T) {
	loops := api.Matroid{N: 6, Bases: []int{0}}
	for _, x := range []struct{ a, b, want api.Matroid }{
		{probe.Uniform(0, 0), probe.Uniform(0, 0), probe.Uniform(0, 0)},
		{probe.Uniform(1, 1), probe.Uniform(0, 1), probe.Uniform(1, 1)},
		{probe.Uniform(0, 8), probe.Uniform(0, 8), probe.Uniform(0, 8)},
		{probe.Uniform(2, 4), probe.Uniform(2, 4), probe.Uniform(4, 4)},
		{probe.Uniform(2, 5), probe.Uniform(1, 5), probe.Uniform(3, 5)},
		{probe.Uniform(3, 8), probe.Uniform(3, 8), probe.Uniform(6, 8)},
		{probe.Uniform(5, 8), probe.Uniform(7, 8), probe.Uniform(8, 8)},
		// What has the rank 0 brings nothing.
		{probe.K4(), loops, probe.K4()},
		{loops, probe.K4(), probe.K4()},
		// The edges are two trees; of seven points all but one are two bases.
		{probe.K4(), probe.K4(), probe.Uniform(6, 6)},
		{probe.Fano(), probe.Fano(), probe.Uniform(6, 7)},
		// The same element twice is still one.
		{api.Matroid{N: 3, Bases: []int{1}}, api.Matroid{N: 3, Bases: []int{1}}, api.Matroid{N: 3, Bases: []int{1}}},
		{api.Matroid{N: 3, Bases: []int{1}}, api.Matroid{N: 3, Bases: []int{4}}, api.Matroid{N: 3, Bases: []int{5}}},
		// 0 and 1 are parallel, 2 is a loop.
		{api.Matroid{N: 3, Bases: []int{1, 2}}, api.Matroid{N: 3, Bases: []int{1, 2}}, api.Matroid{N: 3, Bases: []int{3}}},
		{api.Matroid{N: 3, Bases: []int{1, 2}}, api.Matroid{N: 3, Bases: []int{2, 4}}, api.Matroid{N: 3, Bases: []int{3, 5, 6}}},
		{api.Matroid{N: 4, Bases: []int{1, 2}}, api.Matroid{N: 4, Bases: []int{4, 8}}, api.Matroid{N: 4, Bases: []int{5, 6, 9, 10}}},
	} {
		if got, e := join.Union(x.a, x.b); e != api.OK || !probe.Equal(got, x.want) {
			t.Errorf("Union(%v, %v) = %v, %d, want %v", x.a, x.b, got, e, x.want)
		}
	}
}

// TestUnionIsOrdinary: it makes no difference which one is first, and no
// elements are lost.
func TestUnionIsOrdinary(t *testing.T) {
	for _, a := range probe.All(4) {
		for _, b := range probe.All(4) {
			one, _ := join.Union(a, b)
			other, e := join.Union(b, a)
			if e != api.OK || !probe.Equal(one, other) {
				t.Errorf("Union(%v, %v) = %v, and the other way round %v, %d", a, b, one, other, e)
			}
			for _, s := range slices.Concat(a.Bases, b.Bases) {
				if !probe.Independent(one, s) {
					t.Errorf("Union(%v, %v) = %v, in which %d is not independent", a, b, one, s)
				}
			}
		}
	}
}

func TestUnlike(t *testing.T) {
	var given []api.Matroid
	for n := range 9 {
		given = append(given, probe.Uniform(0, n), probe.Uniform(n, n), probe.Uniform(n/2, n))
	}
	for _, a := range given {
		for _, b := range given {
			if a.N != b.N && !isRefusal(union(a, b), api.ErrShape) {
				t.Errorf("Union(%v, %v) = %v, want %d", a, b, union(a, b), api.ErrShape)
			}
		}
	}
}

// TestUnionOfNoMatroids: the first that is none is told, ahead of how many
// elements there are.
func TestUnionOfNoMatroids(t *testing.T) {
	for _, x := range probe.Wrong() {
		for n := range 9 {
			m := probe.Uniform(n/2, n)
			if got := union(x.M, m); !isRefusal(got, x.Want) {
				t.Errorf("Union(%.8v, %v) = %v, want %d", x.M, m, got, x.Want)
			}
			if got := union(m, x.M); !isRefusal(got, x.Want) {
				t.Errorf("Union(%v, %.8v) = %v, want %d", m, x.M, got, x.Want)
			}
		}
		for _, y := range probe.Wrong() {
			if got := union(x.M, y.M); !isRefusal(got, x.Want) {
				t.Errorf("Union(%.8v, %.8v) = %v, want %d", x.M, y.M, got, x.Want)
			}
		}
	}
}
