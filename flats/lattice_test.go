package flats_test

import (
	"slices"
	"testing"

	"rota/api"
	"rota/axioms"
	"rota/flats"
	"rota/probe"
)

func TestCovers(t *testing.T) {
	for _, m := range probe.Matroids() {
		l := flatsOf(m)
		for _, f := range l {
			want := slices.DeleteFunc(slices.Clone(l), func(g int) bool {
				return f&g != f || probe.Rank(m, g) != probe.Rank(m, f)+1
			})
			if got, e := flats.Covers(m, f); e != api.OK || !slices.Equal(got, want) {
				t.Errorf("Covers(%v, %d) = %v, %d, want %v", m, f, got, e, want)
			}
		}
	}
}

// TestCoversPart: what is not in a flat is in just one of those that cover it.
func TestCoversPart(t *testing.T) {
	for _, m := range probe.Matroids() {
		for _, f := range flatsOf(m) {
			got, e := flats.Covers(m, f)
			covered := 0
			for _, g := range got {
				if covered&g&^f != 0 {
					t.Errorf("Covers(%v, %d) = %v, in which %d overlaps", m, f, got, g)
				}
				covered |= g &^ f
			}
			if e != api.OK || covered != 1<<m.N-1-f {
				t.Errorf("Covers(%v, %d) = %v, %d", m, f, got, e)
			}
		}
	}
}

func TestCoversEdges(t *testing.T) {
	k4 := probe.K4()
	for _, x := range []struct {
		m    api.Matroid
		f    int
		want []int
	}{
		{probe.Uniform(0, 0), 0, nil},
		{probe.Uniform(0, 8), 255, nil},
		{probe.Uniform(1, 1), 0, []int{1}},
		{probe.Uniform(1, 1), 1, nil},
		{probe.Uniform(1, 8), 0, []int{255}},
		{probe.Uniform(8, 8), 0, []int{1, 2, 4, 8, 16, 32, 64, 128}},
		{probe.Uniform(8, 8), 0b01010101, []int{0b01010111, 0b01011101, 0b01110101, 0b11010101}},
		{probe.Uniform(8, 8), 127, []int{255}},
		{probe.Uniform(2, 4), 0, []int{1, 2, 4, 8}},
		{probe.Uniform(2, 4), 4, []int{15}},
		{probe.Uniform(2, 4), 15, nil},
		// 0 and 1 are parallel, 2 is a loop.
		{api.Matroid{N: 3, Bases: []int{1, 2}}, 4, []int{7}},
		{k4, 0, []int{1, 2, 4, 8, 16, 32}},
		{k4, 1, []int{11, 21, 33}},
		{k4, 32, []int{33, 38, 56}},
		{k4, 33, []int{63}},
		{probe.Fano(), 1, []int{7, 25, 97}},
	} {
		if got, e := flats.Covers(x.m, x.f); e != api.OK || !slices.Equal(got, x.want) {
			t.Errorf("Covers(%v, %d) = %v, %d, want %v", x.m, x.f, got, e, x.want)
		}
	}
}

// goOn: how many lists begin with those that end at f, and have one flat of
// each rank up to that of all.
func goOn(m api.Matroid, l []int, f int) int {
	if f == 1<<m.N-1 {
		return 1
	}
	n := 0
	for _, g := range l {
		if f&g == f && probe.Rank(m, g) == probe.Rank(m, f)+1 {
			n += goOn(m, l, g)
		}
	}
	return n
}

func TestChains(t *testing.T) {
	for _, m := range probe.Matroids() {
		// Some thousands of lists at most: more are in TestChainsEdges.
		if rank(m) > 6 {
			continue
		}
		l := flatsOf(m)
		want := goOn(m, l, l[0])
		if got, e := flats.Chains(m); e != api.OK || got != want {
			t.Errorf("Chains(%v) = %d, %d, want %d", m, got, e, want)
		}
	}
}

// TestChainsEdges holds answers that were found by hand.
func TestChainsEdges(t *testing.T) {
	for _, x := range []struct {
		m    api.Matroid
		want int
	}{
		{probe.Uniform(0, 0), 1},
		{probe.Uniform(0, 8), 1},
		{probe.Uniform(1, 1), 1},
		{probe.Uniform(1, 8), 1},
		{probe.Uniform(2, 2), 2},
		{probe.Uniform(2, 4), 4},
		{probe.Uniform(3, 8), 8 * 7},
		{probe.Uniform(7, 8), 8 * 7 * 6 * 5 * 4 * 3},
		{probe.Uniform(8, 8), 8 * 7 * 6 * 5 * 4 * 3 * 2},
		{api.Matroid{N: 3, Bases: []int{1, 2}}, 1},
		{api.Matroid{N: 3, Bases: []int{5, 6}}, 2},
		// Four lines of three points, three of two.
		{probe.K4(), 4*3 + 3*2},
		{probe.Fano(), 7 * 3},
		// Five planes of four points, in each of which are six lines of two
		// points; and 36 of three.
		{probe.Vamos(), 5*6*2 + 36*3*2},
	} {
		if got, e := flats.Chains(x.m); e != api.OK || got != x.want {
			t.Errorf("Chains(%v) = %d, %d, want %d", x.m, got, e, x.want)
		}
	}
}

func TestModular(t *testing.T) {
	for _, m := range probe.Matroids() {
		l := flatsOf(m)
		for _, f := range l {
			want := !slices.ContainsFunc(l, func(g int) bool {
				return probe.Rank(m, f)+probe.Rank(m, g) != probe.Rank(m, f&g)+probe.Rank(m, f|g)
			})
			if got, e := flats.Modular(m, f); e != api.OK || got != want {
				t.Errorf("Modular(%v, %d) = %t, %d, want %t", m, f, got, e, want)
			}
		}
	}
}

// TestModularEverywhere: the least flat, all elements, and each flat of rank 1
// are modular in any matroid.
func TestModularEverywhere(t *testing.T) {
	for _, m := range probe.Matroids() {
		least, _ := axioms.Closure(m, 0)
		points, _ := flats.Covers(m, least)
		for _, f := range append(points, least, 1<<m.N-1) {
			if got, e := flats.Modular(m, f); e != api.OK || !got {
				t.Errorf("Modular(%v, %d) = %t, %d", m, f, got, e)
			}
		}
	}
}

// TestModularEdges holds answers that were found by hand.
func TestModularEdges(t *testing.T) {
	for _, x := range []struct {
		m    api.Matroid
		f    int
		want bool
	}{
		{probe.Uniform(0, 0), 0, true},
		{probe.Uniform(0, 8), 255, true},
		{probe.Uniform(8, 8), 0b01100110, true},
		{probe.Uniform(2, 4), 0, true},
		{probe.Uniform(2, 4), 8, true},
		{probe.Uniform(2, 4), 15, true},
		// Two and two have no element together.
		{probe.Uniform(3, 4), 3, false},
		{probe.Uniform(3, 8), 192, false},
		// A triangle meets each line of three points, and each of two.
		{probe.K4(), 11, true},
		{probe.K4(), 56, true},
		// 0 and 5 meet neither 1 and 4 nor 2 and 3.
		{probe.K4(), 33, false},
		{probe.K4(), 12, false},
		// Any two lines meet.
		{probe.Fano(), 7, true},
		{probe.Fano(), 52, true},
		{probe.Vamos(), 15, false},
		{probe.Vamos(), 3, false},
	} {
		if got, e := flats.Modular(x.m, x.f); e != api.OK || got != x.want {
			t.Errorf("Modular(%v, %d) = %t, %d, want %t", x.m, x.f, got, e, x.want)
		}
	}
}
