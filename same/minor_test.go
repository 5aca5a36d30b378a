package same_test

import (
	"testing"

	"rota/api"
	"rota/minors"
	"rota/probe"
	"rota/same"
)

// gone: what is deleted, and what is contracted.
type gone struct{ d, c int }

// isAhead: the one with the least d, of several the one with the least c.
func isAhead(a, b gone) bool { return a.d < b.d || a.d == b.d && a.c < b.c }

// made of m without d and c: the rank of a set is by how much it raises that
// of c.
func made(m api.Matroid, rank []int, g gone) api.Matroid {
	left := probe.Elements(1<<m.N - 1 - g.d - g.c)
	return probe.WithIndependents(len(left), func(s int) bool {
		old := 0
		for _, i := range probe.Elements(s) {
			old |= 1 << left[i]
		}
		return rank[old|g.c]-rank[g.c] == len(probe.Elements(s))
	})
}

// firstMinors of m, each with what is to go.
func firstMinors(m api.Matroid) map[string]gone {
	rank := make([]int, 1<<m.N)
	for s := range rank {
		rank[s] = probe.Rank(m, s)
	}
	first := map[string]gone{}
	for d := range 1 << m.N {
		for c := range 1 << m.N {
			if d&c != 0 {
				continue
			}
			minor := written(made(m, rank, gone{d, c}))
			if _, ok := first[minor]; !ok {
				first[minor] = gone{d, c}
			}
		}
	}
	return first
}

// names of k: all its Renames, each once.
func names(k api.Matroid) map[string]int {
	all := map[string]int{}
	for _, p := range probe.Orders(k.N) {
		all[written(probe.Renamed(k, p))]++
	}
	return all
}

// holdMinor asks for what is to go, so that a minor of m is k but for names.
func holdMinor(t *testing.T, m, k api.Matroid, g gone, want api.Errno) {
	t.Helper()
	if d, c, e := same.Minor(m, k); e != want || (gone{d, c}) != g {
		t.Errorf("Minor(%v, %v) = %d, %d, %d, want %v, %d", m, k, d, c, e, g, want)
	}
}

// holdMinors holds m and each k to the words of P15.
func holdMinors(t *testing.T, m api.Matroid, ks []api.Matroid) {
	t.Helper()
	first := firstMinors(m)
	for _, k := range ks {
		var least gone
		want := api.ErrNone
		for name := range names(k) {
			if g, ok := first[name]; ok && (want == api.ErrNone || isAhead(g, least)) {
				least, want = g, api.OK
			}
		}
		holdMinor(t, m, k, least, want)
	}
}

// TestMinor of small matroids: of four elements all in all, of five with
// those, and with one of their own.
func TestMinor(t *testing.T) {
	var small []api.Matroid
	for n := range 5 {
		small = append(small, probe.All(n)...)
	}
	for _, m := range small {
		holdMinors(t, m, small)
	}
	five := probe.All(5)
	for i, m := range five {
		holdMinors(t, m, append(small, five[len(five)-1-i], probe.Renamed(m, []int{1, 2, 3, 4, 0})))
	}
}

// excluded: the matroids that bar those of matrices, and some that bar less.
func excluded(t *testing.T) []api.Matroid {
	fano := probe.Fano()
	turned, e := minors.Dual(fano)
	if e != api.OK {
		t.Fatalf("Dual is refused with %d", e)
	}
	return []api.Matroid{
		probe.Uniform(2, 4), probe.Uniform(2, 5), probe.Uniform(3, 5), fano, turned, probe.K4(),
		probe.Uniform(1, 3), probe.Uniform(2, 3), probe.Uniform(3, 4), probe.Uniform(0, 2),
		probe.Uniform(5, 5), probe.Uniform(1, 1),
		{N: 3, Bases: []int{2, 4}}, {N: 4, Bases: []int{5, 6, 9, 10}}, {N: 5, Bases: []int{3, 5, 6, 10, 12}},
	}
}

func TestMinorOfKnown(t *testing.T) {
	for _, m := range probe.Known()[:11] {
		holdMinors(t, probe.Renamed(m, probe.SomeOrders(m.N)[0]), append(excluded(t), m))
	}
}

// TestMinorEdges holds answers that were found by hand.
func TestMinorEdges(t *testing.T) {
	none := gone{}
	nothing, pairs := probe.Uniform(0, 0), probe.Uniform(2, 4)
	for _, x := range []struct {
		m, k api.Matroid
		g    gone
		want api.Errno
	}{
		{nothing, nothing, none, api.OK},
		{nothing, probe.Uniform(0, 1), none, api.ErrNone},
		{pairs, nothing, gone{0, 15}, api.OK},
		{pairs, pairs, none, api.OK},
		{pairs, probe.Uniform(2, 5), none, api.ErrNone},
		{pairs, probe.Uniform(2, 3), gone{1, 0}, api.OK},
		{pairs, probe.Uniform(1, 3), gone{0, 1}, api.OK},
		{pairs, probe.Uniform(0, 3), none, api.ErrNone},
		{pairs, probe.Uniform(0, 1), gone{0, 7}, api.OK},
		// What is contracted has the number that it has in m.
		{pairs, probe.Uniform(1, 2), gone{1, 2}, api.OK},
		{pairs, probe.Uniform(1, 1), gone{3, 4}, api.OK},
		{probe.Uniform(0, 8), probe.Uniform(0, 3), gone{0, 31}, api.OK},
		{probe.Uniform(0, 8), probe.Uniform(1, 1), none, api.ErrNone},
		{probe.Uniform(8, 8), probe.Uniform(3, 3), gone{0, 31}, api.OK},
		{probe.Uniform(8, 8), probe.Uniform(0, 1), none, api.ErrNone},
		// 0 is in each basis, 1 and 2 are parallel.
		{api.Matroid{N: 3, Bases: []int{3, 5}}, probe.Uniform(1, 2), gone{0, 1}, api.OK},
		{api.Matroid{N: 3, Bases: []int{3, 5}}, api.Matroid{N: 2, Bases: []int{2}}, gone{0, 2}, api.OK},
		{probe.Fano(), pairs, none, api.ErrNone},
		{probe.Fano(), probe.K4(), gone{1, 0}, api.OK},
		{probe.K4(), pairs, none, api.ErrNone},
		{probe.K4(), probe.Fano(), none, api.ErrNone},
		{probe.Uniform(4, 8), probe.Uniform(4, 8), none, api.OK},
		{probe.Uniform(4, 8), probe.K4(), none, api.ErrNone},
	} {
		holdMinor(t, x.m, x.k, x.g, x.want)
	}
}
