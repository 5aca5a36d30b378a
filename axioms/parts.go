package axioms

import (
	"rota/api"
	"rota/sets"
)

// What follows is for the layers below: it takes what it is handed as it is.

// IsIndependent: is s, by the ranks of all sets?
func IsIndependent(r []int, s int) bool { return r[s] == sets.Size(s) }

// WithIndependents: the matroid of n elements with these independent sets.
// They are known to be those of one, so its bases are the largest of them.
func WithIndependents(n int, independent func(s int) bool) api.Matroid {
	l := sets.Sieve(n, independent)
	rank := 0
	for _, s := range l {
		rank = max(rank, sets.Size(s))
	}
	var bases []int
	for _, s := range l {
		if sets.Size(s) == rank {
			bases = append(bases, s)
		}
	}
	return api.Matroid{N: n, Bases: bases}
}
