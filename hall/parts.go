package hall

import (
	"rota/api"
	"rota/axioms"
	"rota/sets"
)

// ranksOf all sets of m, if l is a list of such sets.
func ranksOf(m api.Matroid, l []int) ([]int, api.Errno) {
	r, e := axioms.Ranks(m)
	if e != api.OK {
		return nil, e
	}
	if e := Check(m.N, l); e != api.OK {
		return nil, e
	}
	return r, api.OK
}

// free: the matroid of n elements all of whose sets are independent.
func free(n int) api.Matroid { return api.Matroid{N: n, Bases: []int{sets.Whole(n)}} }

// unions: for each set of places of l the elements that its sets have together.
func unions(l []int) []int {
	all := []int{0}
	for _, s := range l {
		for _, without := range all {
			all = append(all, without|s)
		}
	}
	return all
}

// bar: the least set of places of l whose sets, by their ranks beyond that of
// what is taken, are together less than they are many.
func bar(r []int, taken int, l []int) (int, api.Errno) {
	for places, s := range unions(l) {
		if r[s|taken]-r[taken] < sets.Size(places) {
			return places, api.OK
		}
	}
	return 0, api.ErrNone
}

// stand: set by set, the least element that leaves no bar to the sets behind.
// By Rado these then find theirs.
func stand(r, l []int) ([]int, api.Errno) {
	var found []int
	taken := 0
	for i, s := range l {
		x := least(r, taken, s, l[i+1:])
		if x == 0 {
			return nil, api.ErrNone
		}
		// As many elements as there are below it.
		found = append(found, sets.Size(x-1))
		taken |= x
	}
	return found, api.OK
}

// least element of s, as a set of its own, that can be taken, too, and leaves
// no bar to the sets behind; if there is none, the empty set.
func least(r []int, taken, s int, behind []int) int {
	for x := range sets.Singles(s &^ taken) {
		if !axioms.IsIndependent(r, taken|x) {
			continue
		}
		if _, e := bar(r, taken|x, behind); e == api.ErrNone {
			return x
		}
	}
	return 0
}
