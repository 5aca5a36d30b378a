package flats

import (
	"slices"

	"rota/api"
	"rota/axioms"
	"rota/sets"
)

// mobius: the number of each flat. The flats rise, so all that lie in one come
// ahead of it, and the one that lies in all is the first.
func mobius(flats []int) []int64 {
	numbers := make([]int64, len(flats))
	numbers[0] = 1
	for i := 1; i < len(flats); i++ {
		for j := range i {
			if sets.Within(flats[j], flats[i]) {
				numbers[i] -= numbers[j]
			}
		}
	}
	return numbers
}

// characteristic: the coefficients, by the ranks of all sets.
func characteristic(ranks []int) []int64 {
	rank := ranks[len(ranks)-1]
	coefficients := make([]int64, rank+1)
	for s, r := range ranks {
		if sets.Size(s)%2 == 0 {
			coefficients[rank-r]++
		} else {
			coefficients[rank-r]--
		}
	}
	return coefficients
}

// countByRank: how many sets of each rank are what is asked for.
func countByRank(m api.Matroid, is func(ranks []int, s int) bool) ([]int, api.Errno) {
	ranks, e := axioms.Ranks(m)
	if e != api.OK {
		return nil, e
	}
	counts := make([]int, ranks[len(ranks)-1]+1)
	for s, r := range ranks {
		if is(ranks, s) {
			counts[r]++
		}
	}
	return counts, api.OK
}

// withoutLeast: what each set of l has but its least element.
func withoutLeast(l []int) []int {
	rests := make([]int, 0, len(l))
	for _, s := range l {
		rests = append(rests, s&^sets.Lowest(s))
	}
	return rests
}

// hasOneWithin: does a set of l lie in s?
func hasOneWithin(l []int, s int) bool {
	return slices.ContainsFunc(l, func(o int) bool { return sets.Within(o, s) })
}

// lattice: the flats of a matroid, rising, and the ranks of all its sets.
type lattice struct{ flats, ranks []int }

func latticeOf(m api.Matroid) (lattice, api.Errno) {
	ranks, e := axioms.Ranks(m)
	if e != api.OK {
		return lattice{}, e
	}
	flats := sets.Sieve(m.N, func(s int) bool { return axioms.IsFlat(ranks, s) })
	return lattice{flats, ranks}, api.OK
}

// latticeAt: the lattice, if f is in it; else ErrArg.
func latticeAt(m api.Matroid, f int) (lattice, api.Errno) {
	l, e := latticeOf(m)
	if e != api.OK {
		return lattice{}, e
	}
	if !slices.Contains(l.flats, f) {
		return lattice{}, api.ErrArg
	}
	return l, api.OK
}

// covers of the flat f: those next above it.
func (l lattice) covers(f int) []int {
	var found []int
	for _, g := range l.flats {
		if sets.Within(f, g) && l.ranks[g] == l.ranks[f]+1 {
			found = append(found, g)
		}
	}
	return found
}

// chains: how many lead from the least flat to all elements. How many lead to
// a flat is known when it is its turn, since all that lie in it come ahead.
func (l lattice) chains() int {
	leadTo := make([]int, len(l.ranks))
	leadTo[l.flats[0]] = 1
	for _, f := range l.flats {
		for _, g := range l.covers(f) {
			leadTo[g] += leadTo[f]
		}
	}
	return leadTo[len(leadTo)-1]
}

// isModular: do the ranks of the flat f and of each other one add up?
func (l lattice) isModular(f int) bool {
	for _, g := range l.flats {
		if l.ranks[f]+l.ranks[g] != l.ranks[f&g]+l.ranks[f|g] {
			return false
		}
	}
	return true
}
