package axioms

import (
	"slices"

	"rota/api"
	"rota/sets"
)

// Each of the calls below finds the only bases that there could be, takes the
// matroid of them, if it is one, and asks whether it tells what was handed in.

// OfIndependents: P8.
func OfIndependents(n int, l []int) (api.Matroid, api.Errno) {
	bases, e := sets.Most(n, l)
	if e != api.OK {
		return api.Matroid{}, e
	}
	return madeOf(api.Matroid{N: n, Bases: bases}, Independents, l)
}

// OfCircuits: P8. What is left by a least set that meets all circuits is a
// most set that has none of them within it: a basis.
func OfCircuits(n int, l []int) (api.Matroid, api.Errno) {
	taken, e := sets.Blocker(n, l)
	if e != api.OK {
		return api.Matroid{}, e
	}
	return madeOf(api.Matroid{N: n, Bases: sets.Complements(n, taken)}, Circuits, l)
}

// OfRanks: P8.
func OfRanks(n int, l []int) (api.Matroid, api.Errno) {
	if sets.Check(n, 0) != api.OK || len(l) != 1<<n {
		return api.Matroid{}, api.ErrArg
	}
	bases := sets.Sieve(n, func(s int) bool { return l[s] == sets.Size(s) && l[s] == l[len(l)-1] })
	return madeOf(api.Matroid{N: n, Bases: bases}, Ranks, l)
}

// OfFlats: P8. A basis lies in no flat but that of all elements, which is the
// last one.
func OfFlats(n int, l []int) (api.Matroid, api.Errno) {
	if e := sets.Family(n, l); e != api.OK {
		return api.Matroid{}, e
	}
	less, _ := slices.BinarySearch(l, 1<<n-1)
	return madeOf(api.Matroid{N: n, Bases: leastOutside(n, l[:less])}, Flats, l)
}

// OfHyperplanes: P8. A basis lies in no hyperplane.
func OfHyperplanes(n int, l []int) (api.Matroid, api.Errno) {
	if e := sets.Family(n, l); e != api.OK {
		return api.Matroid{}, e
	}
	return madeOf(api.Matroid{N: n, Bases: leastOutside(n, l)}, Hyperplanes, l)
}

// leastOutside: the least sets that lie in no set of the family l. Such a set
// has an element of what each of them leaves.
func leastOutside(n int, l []int) []int {
	least, _ := sets.Blocker(n, sets.Complements(n, l))
	return least
}

// madeOf: m, if it is a matroid of which l is told.
func madeOf(m api.Matroid, tell func(api.Matroid) ([]int, api.Errno), l []int) (api.Matroid, api.Errno) {
	told, e := tell(m)
	if e != api.OK || !slices.Equal(told, l) {
		return api.Matroid{}, api.ErrShape
	}
	return m, api.OK
}
