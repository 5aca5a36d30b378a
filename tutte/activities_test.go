package tutte_test

import (
	"slices"
	"testing"

	"rota/api"
	"rota/probe"
	"rota/tutte"
)

// makesBasis: is b one with the element in, and without the element out?
func makesBasis(m api.Matroid, b, in, out int) bool {
	return slices.Contains(m.Bases, b&^(1<<out)|1<<in)
}

// activeWithin b, by the words of P23.
func activeWithin(m api.Matroid, b int) int {
	active := 0
	for _, i := range probe.Elements(b) {
		can := false
		for lesser := range i {
			can = can || makesBasis(m, b, lesser, i)
		}
		if !can {
			active += 1 << i
		}
	}
	return active
}

// activeWithout: of what b has not, by the words of P23.
func activeWithout(m api.Matroid, b int) int {
	active := 0
	for _, i := range probe.Elements(1<<m.N - 1 - b) {
		can := false
		for _, lesser := range probe.Elements(b) {
			can = can || lesser < i && makesBasis(m, b, i, lesser)
		}
		if !can {
			active += 1 << i
		}
	}
	return active
}

func TestActivities(t *testing.T) {
	for _, m := range probe.Matroids() {
		for _, b := range m.Bases {
			in, out := activeWithin(m, b), activeWithout(m, b)
			if within, without, e := tutte.Activities(m, b); e != api.OK || within != in || without != out {
				t.Errorf("Activities(%v, %d) = %d, %d, %d, want %d, %d", m, b, within, without, e, in, out)
			}
		}
	}
}

// TestActivitiesEdges holds answers that were found by hand.
func TestActivitiesEdges(t *testing.T) {
	for _, x := range []struct {
		m                  api.Matroid
		b, within, without int
	}{
		{probe.Uniform(0, 0), 0, 0, 0},
		{probe.Uniform(0, 8), 0, 0, 255},
		{probe.Uniform(8, 8), 255, 255, 0},
		{api.Matroid{N: 8, Bases: []int{0b10110}}, 0b10110, 0b10110, 0b11101001},
		{probe.Uniform(1, 2), 1, 1, 0},
		{probe.Uniform(1, 2), 2, 0, 1},
		{probe.Uniform(2, 4), 3, 3, 0},
		{probe.Uniform(2, 4), 5, 1, 0},
		{probe.Uniform(2, 4), 9, 1, 0},
		{probe.Uniform(2, 4), 6, 0, 1},
		{probe.Uniform(2, 4), 10, 0, 1},
		{probe.Uniform(2, 4), 12, 0, 3},
		// 2 is a loop.
		{api.Matroid{N: 3, Bases: []int{1, 2}}, 1, 1, 4},
		{api.Matroid{N: 3, Bases: []int{1, 2}}, 2, 0, 5},
		{probe.K4(), 7, 7, 0},
		// 0, 1 and 3 are a ring, so that 1 can't come for 2.
		{probe.K4(), 13, 5, 0},
		// 3, 4 and 5 are one, so that 3 can't come for 2.
		{probe.K4(), 52, 0, 11},
	} {
		if within, without, e := tutte.Activities(x.m, x.b); e != api.OK || within != x.within || without != x.without {
			t.Errorf("Activities(%v, %d) = %d, %d, %d, want %d, %d", x.m, x.b, within, without, e, x.within, x.without)
		}
	}
}

// TestCrapo: the sum over all bases is the polynomial, whatever the elements'
// names are.
func TestCrapo(t *testing.T) {
	for _, m := range probe.Matroids() {
		want := bySets(m)
		orders := probe.SomeOrders(m.N)
		for _, order := range orders[:min(len(orders), 10)] {
			renamed := probe.Renamed(m, order)
			got := noughts(rank(m), m.N-rank(m))
			for _, b := range renamed.Bases {
				within, without, _ := tutte.Activities(renamed, b)
				got[count(within)][count(without)]++
			}
			if !equal(got, want) {
				t.Errorf("of %v by activities %v, by sets %v", renamed, got, want)
			}
		}
	}
}

// TestNoBases: neither what is no set of the elements nor a set that is no
// basis is taken.
func TestNoBases(t *testing.T) {
	for _, m := range probe.Matroids() {
		given := append(probe.Wide(), 1<<m.N, m.Bases[0]+1<<m.N, m.Bases[0]-1<<m.N)
		for s := range 1 << m.N {
			given = append(given, s)
		}
		for _, b := range given {
			within, without, e := tutte.Activities(m, b)
			if slices.Contains(m.Bases, b) {
				if e != api.OK {
					t.Errorf("Activities(%v, %d) = %d", m, b, e)
				}
			} else if e != api.ErrArg || within != 0 || without != 0 {
				t.Errorf("Activities(%v, %d) = %d, %d, %d, want %d", m, b, within, without, e, api.ErrArg)
			}
		}
	}
}
