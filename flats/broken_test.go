package flats_test

import (
	"slices"
	"testing"

	"rota/api"
	"rota/flats"
	"rota/probe"
)

// brokenCircuits of m, by the words of P22.
func brokenCircuits(m api.Matroid) []int {
	var l []int
	for s := range 1 << m.N {
		if probe.Circuit(m, s) {
			l = append(l, s-1<<probe.Elements(s)[0])
		}
	}
	return l
}

func TestBroken(t *testing.T) {
	for _, m := range probe.Matroids() {
		broken := brokenCircuits(m)
		var want []int
		for s := range 1 << m.N {
			if !slices.ContainsFunc(broken, func(b int) bool { return b&s == b }) {
				want = append(want, s)
			}
		}
		if got, e := flats.Broken(m); e != api.OK || !slices.Equal(got, want) {
			t.Errorf("Broken(%v) = %v, %d, want %v", m, got, e, want)
		}
	}
}

// TestWhitney: of k elements there are as many as a coefficient is great,
// whatever the elements' names are.
func TestWhitney(t *testing.T) {
	for _, m := range probe.Matroids() {
		polynomial, _ := flats.Characteristic(m)
		orders := probe.SomeOrders(m.N)
		for _, order := range orders[:min(len(orders), 10)] {
			renamed := probe.Renamed(m, order)
			got, e := flats.Broken(renamed)
			counts := make([]int64, rank(m)+1)
			for _, s := range got {
				counts[rank(m)-count(s)] += sign(count(s))
			}
			if e != api.OK || !slices.Equal(counts, polynomial) {
				t.Errorf("Broken(%v) = %v, %d, but the polynomial is %v", renamed, got, e, polynomial)
			}
		}
	}
}

// TestBrokenEdges holds answers that were found by hand.
func TestBrokenEdges(t *testing.T) {
	for _, x := range []struct {
		m    api.Matroid
		want []int
	}{
		{probe.Uniform(0, 0), []int{0}},
		// A loop has nothing but its least element, and nothing is in all sets.
		{probe.Uniform(0, 1), nil},
		{probe.Uniform(0, 8), nil},
		{api.Matroid{N: 3, Bases: []int{6}}, nil},
		{api.Matroid{N: 3, Bases: []int{3}}, nil},
		{probe.Uniform(1, 1), []int{0, 1}},
		{probe.Uniform(3, 3), []int{0, 1, 2, 3, 4, 5, 6, 7}},
		{probe.Uniform(1, 8), []int{0, 1}},
		{probe.Uniform(2, 3), []int{0, 1, 2, 3, 4, 5}},
		{probe.Uniform(2, 4), []int{0, 1, 2, 3, 4, 5, 8, 9}},
		// 0 and 1 are parallel, so 1 is broken; 2 is in all bases.
		{api.Matroid{N: 3, Bases: []int{5, 6}}, []int{0, 1, 4, 5}},
		{api.Matroid{N: 3, Bases: []int{3, 5}}, []int{0, 1, 2, 3}},
		// Of the rings of three 10, 20, 36 and 48 are left, and these are in
		// what is left of those of four: so of 1 and 3 there is one at most,
		// and of 2, 4 and 5.
		{probe.K4(), []int{0, 1, 2, 3, 4, 5, 6, 7, 8, 9, 12, 13, 16, 17, 18, 19, 24, 25, 32, 33, 34, 35, 40, 41}},
	} {
		if got, e := flats.Broken(x.m); e != api.OK || !slices.Equal(got, x.want) {
			t.Errorf("Broken(%v) = %v, %d, want %v", x.m, got, e, x.want)
		}
	}
}
