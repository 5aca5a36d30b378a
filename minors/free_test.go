package minors_test

import (
	"slices"
	"testing"

	"rota/api"
	"rota/minors"
	"rota/probe"
)

func TestFree(t *testing.T) {
	for _, m := range probe.Matroids() {
		got, e := minors.Free(m)
		if m.N == 8 {
			if e != api.ErrLarge || got.N != 0 || len(got.Bases) != 0 {
				t.Errorf("Free(%v) = %v, %d, want %d", m, got, e, api.ErrLarge)
			}
			continue
		}
		want := probe.WithIndependents(m.N+1, func(s int) bool {
			beside := s &^ (1 << m.N)
			return probe.Independent(m, beside) && (s == beside || !slices.Contains(m.Bases, beside))
		})
		if e != api.OK || !probe.Equal(got, want) {
			t.Errorf("Free(%v) = %v, %d, want %v", m, got, e, want)
		}
	}
}

// TestFreeAndTruncate: to set an element free and to contract it takes one
// from the rank.
func TestFreeAndTruncate(t *testing.T) {
	for _, m := range probe.Matroids() {
		rank := probe.Rank(m, 1<<m.N-1)
		if m.N == 8 || rank == 0 {
			continue
		}
		freed, e := minors.Free(m)
		sure(t, freed, e)
		contracted, e := minors.Contract(freed, 1<<m.N)
		sure(t, contracted, e)
		if got, e := minors.Truncate(m, rank-1); e != api.OK || !probe.Equal(got, contracted) {
			t.Errorf("Truncate(%v, %d) = %v, %d, want %v", m, rank-1, got, e, contracted)
		}
	}
}

func TestRelax(t *testing.T) {
	relaxed := 0
	for _, m := range probe.Matroids() {
		for s := range 1 << m.N {
			got, e := minors.Relax(m, s)
			if !probe.Circuit(m, s) || !probe.Hyperplane(m, s) {
				if e != api.ErrShape || got.N != 0 || len(got.Bases) != 0 {
					t.Errorf("Relax(%v, %d) = %v, %d, want %d", m, s, got, e, api.ErrShape)
				}
				continue
			}
			relaxed++
			bases := append(slices.Clone(m.Bases), s)
			slices.Sort(bases)
			if e != api.OK || !probe.Equal(got, api.Matroid{N: m.N, Bases: bases}) || !probe.Exchange(got.Bases) {
				t.Errorf("Relax(%v, %d) = %v, %d, want %v", m, s, got, e, bases)
			}
		}
	}
	if relaxed < 100 {
		t.Errorf("only %d sets could be relaxed", relaxed)
	}
}

func TestFreeEdges(t *testing.T) {
	for _, x := range []struct{ m, want api.Matroid }{
		// The empty set is the basis, so what comes is a loop.
		{probe.Uniform(0, 0), probe.Uniform(0, 1)},
		{probe.Uniform(0, 7), probe.Uniform(0, 8)},
		{probe.Uniform(1, 1), probe.Uniform(1, 2)},
		{probe.Uniform(7, 7), probe.Uniform(7, 8)},
		{probe.Uniform(2, 4), probe.Uniform(2, 5)},
		{api.Matroid{N: 3, Bases: []int{1, 4}}, api.Matroid{N: 4, Bases: []int{1, 4, 8}}},
		{api.Matroid{N: 3, Bases: []int{3, 6}}, api.Matroid{N: 4, Bases: []int{3, 6, 9, 10, 12}}},
	} {
		if got, e := minors.Free(x.m); e != api.OK || !probe.Equal(got, x.want) {
			t.Errorf("Free(%v) = %v, %d, want %v", x.m, got, e, x.want)
		}
	}
}

func TestRelaxEdges(t *testing.T) {
	refused := api.Matroid{}
	oneLoop := api.Matroid{N: 2, Bases: []int{1}}
	for _, x := range []struct {
		m    api.Matroid
		s    int
		want api.Matroid
	}{
		{probe.Uniform(0, 0), 0, refused},
		{probe.Uniform(0, 8), 1, refused},
		{probe.Uniform(8, 8), 255, refused},
		{probe.Uniform(2, 4), 7, refused},
		// One loop is a circuit, and a hyperplane; two are no circuit.
		{oneLoop, 2, probe.Uniform(1, 2)},
		{oneLoop, 0, refused},
		{oneLoop, 1, refused},
		{api.Matroid{N: 3, Bases: []int{1}}, 2, refused},
		{api.Matroid{N: 3, Bases: []int{1}}, 6, refused},
		// Two that are parallel are both, unless there is a loop.
		{api.Matroid{N: 3, Bases: []int{3, 6}}, 5, probe.Uniform(2, 3)},
		{api.Matroid{N: 4, Bases: []int{3, 6}}, 5, refused},
		{api.Matroid{N: 8, Bases: probe.Fano().Bases}, 7, refused},
	} {
		got, e := minors.Relax(x.m, x.s)
		want := api.OK
		if probe.Equal(x.want, refused) {
			want = api.ErrShape
		}
		if e != want || !probe.Equal(got, x.want) {
			t.Errorf("Relax(%v, %d) = %v, %d, want %v, %d", x.m, x.s, got, e, x.want, want)
		}
	}
	// A line of Fano's plane is both.
	if got, e := minors.Relax(probe.Fano(), 7); e != api.OK || got.N != 7 || len(got.Bases) != 29 || got.Bases[0] != 7 {
		t.Errorf("Relax(Fano, 7) = %v, %d", got, e)
	}
}
