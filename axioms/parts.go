package axioms

import (
	"slices"

	"rota/api"
	"rota/sets"
)

// RanksOfBoth is Ranks for the layers below that are handed two matroids: of
// the first that is none they answer what Check says.
func RanksOfBoth(a, b api.Matroid) (ofA, ofB []int, err api.Errno) {
	ofA, e := Ranks(a)
	if e != api.OK {
		return nil, nil, e
	}
	ofB, e = Ranks(b)
	if e != api.OK {
		return nil, nil, e
	}
	return ofA, ofB, api.OK
}

// RanksOfAlike is RanksOfBoth for those that must have as many elements:
// ErrShape, if they have not.
func RanksOfAlike(a, b api.Matroid) (ofA, ofB []int, err api.Errno) {
	ofA, ofB, e := RanksOfBoth(a, b)
	if e != api.OK {
		return nil, nil, e
	}
	if a.N != b.N {
		return nil, nil, api.ErrShape
	}
	return ofA, ofB, api.OK
}

// CheckBases is Check for the layers below that are handed bases, too: ErrArg,
// if a set of l is none.
func CheckBases(m api.Matroid, l ...int) api.Errno {
	if e := Check(m); e != api.OK {
		return e
	}
	for _, s := range l {
		if !IsBasis(m, s) {
			return api.ErrArg
		}
	}
	return api.OK
}

// What follows is for the layers below: it takes what it is handed as it is.

// IsBasis: is s one of m?
func IsBasis(m api.Matroid, s int) bool { return slices.Contains(m.Bases, s) }

// IsIndependent: is s, by the ranks of all sets?
func IsIndependent(r []int, s int) bool { return r[s] == sets.Size(s) }

// Closed: s and all elements with which its rank is no more, by the ranks of
// all sets, the last of which is that of all elements.
func Closed(r []int, s int) int {
	closed := s
	for x := range sets.Singles(len(r) - 1 - s) {
		if r[s|x] == r[s] {
			closed |= x
		}
	}
	return closed
}

// IsFlat: is s, by the ranks of all sets?
func IsFlat(r []int, s int) bool { return Closed(r, s) == s }

// WithIndependents: the matroid of n elements with these independent sets.
// They are known to be those of one, so its bases are the largest of them.
func WithIndependents(n int, independent func(s int) bool) api.Matroid {
	l := sets.Sieve(n, independent)
	rank := 0
	for _, s := range l {
		rank = max(rank, sets.Size(s))
	}
	var bases []int
	for _, s := range l {
		if sets.Size(s) == rank {
			bases = append(bases, s)
		}
	}
	return api.Matroid{N: n, Bases: bases}
}
