package minors

import (
	"slices"

	"rota/api"
	"rota/axioms"
	"rota/sets"
)

// without s: the matroid of the other elements, in which the rank of a set is
// by how much it raises that of the base.
func without(m api.Matroid, s, base int) (api.Matroid, api.Errno) {
	r, e := axioms.Ranks(m)
	if e != api.OK {
		return api.Matroid{}, e
	}
	if e := sets.Check(m.N, s); e != api.OK {
		return api.Matroid{}, e
	}
	kept := sets.Whole(m.N) &^ s
	return axioms.WithIndependents(sets.Size(kept), func(t int) bool {
		return r[sets.OldNames(t, kept)|base]-r[base] == sets.Size(t)
	}), api.OK
}

// classes by the ranks of all sets. Two loops, or two parallel elements, have
// together the rank that each of them has; no other two have.
func classes(n int, r []int) []int {
	return partition(n, func(x, y int) bool { return r[x|y] == r[x] && r[x|y] == r[y] })
}

// partition of n elements into sets, rising: which two are together must make
// one. Whether an element is together with itself is not asked.
func partition(n int, together func(x, y int) bool) []int {
	var parts []int
	rest := sets.Whole(n)
	for rest != 0 {
		x := sets.Lowest(rest)
		part := x
		for y := range sets.Singles(rest &^ x) {
			if together(x, y) {
				part |= y
			}
		}
		parts = append(parts, part)
		rest &^= part
	}
	slices.Sort(parts)
	return parts
}
