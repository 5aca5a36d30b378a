package repr_test

import (
	"slices"

	"rota/api"
	"rota/kinds"
	"rota/probe"
)

// written: a matroid as a text, so that a map can hold it.
func written(m api.Matroid) string {
	text := []byte{byte(m.N)}
	for _, b := range m.Bases {
		text = append(text, byte(b))
	}
	return string(text)
}

// once: each of these, not twice.
func once(all []api.Matroid) []api.Matroid {
	seen := map[string]int{}
	var l []api.Matroid
	for _, m := range all {
		if seen[written(m)]++; seen[written(m)] == 1 {
			l = append(l, m)
		}
	}
	return l
}

func rank(m api.Matroid) int { return probe.Rank(m, 1<<m.N-1) }

// oneMore element than in all matroids of n: its matroids, too, are all. Each
// is told by what is left without the last element and by what is left if it
// is contracted, which is one less in rank; a loop, or an element of each
// basis, leaves the same both times.
func oneMore(n int, all []api.Matroid) []api.Matroid {
	var l []api.Matroid
	for _, a := range all {
		l = append(l, api.Matroid{N: n + 1, Bases: a.Bases}, api.Matroid{N: n + 1, Bases: added(a.Bases, 1<<n)})
		for _, b := range all {
			bases := slices.Concat(a.Bases, added(b.Bases, 1<<n))
			if rank(a) == rank(b)+1 && probe.Exchange(bases) {
				l = append(l, api.Matroid{N: n + 1, Bases: bases})
			}
		}
	}
	return l
}

// added: each set of l and one element more.
func added(l []int, element int) []int {
	var with []int
	for _, s := range l {
		with = append(with, s|element)
	}
	return with
}

// turned: the dual, by the words of P9.
func turned(m api.Matroid) api.Matroid {
	d := api.Matroid{N: m.N}
	for _, b := range m.Bases {
		d.Bases = append(d.Bases, 1<<m.N-1-b)
	}
	slices.Sort(d.Bases)
	return d
}

// paved: all sets of k elements of n, but some that have, any two of them, two
// elements or more apart; that makes a matroid, often one of no matrix.
func paved(jumps *probe.Jumps, n, k, tries int) api.Matroid {
	all := probe.Uniform(k, n).Bases
	var but []int
	for range tries {
		s := all[jumps.Next(len(all))]
		if !slices.ContainsFunc(but, func(o int) bool { return len(probe.Elements(s&^o)) < 2 }) {
			but = append(but, s)
		}
	}
	return api.Matroid{N: n, Bases: slices.DeleteFunc(all, func(s int) bool { return slices.Contains(but, s) })}
}

// linear: Linear of a matrix that is known to be one.
func linear(x api.Matrix) api.Matroid {
	m, _ := kinds.Linear(x)
	return m
}

// large matroids, most of six to eight elements: of matrices of each modulus,
// of graphs, and of neither.
func large() []api.Matroid {
	all := probe.Known()
	matrices := probe.Matrices()
	for _, x := range matrices[len(matrices)-4*9*7*2:] {
		all = append(all, linear(x))
	}
	graphs := probe.Graphs()
	for _, g := range graphs[len(graphs)-100:] {
		m, _ := kinds.Graphic(g)
		all = append(all, m)
	}
	var jumps probe.Jumps
	for i := range 100 {
		n := 6 + i%3
		all = append(all, paved(&jumps, n, 3+i/3%(n-5), 3+i))
	}
	for _, m := range slices.Clone(all) {
		all = append(all, turned(m))
	}
	return once(all)
}
