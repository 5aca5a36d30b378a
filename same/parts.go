package same

import (
	"rota/api"
	"rota/axioms"
	"rota/minors"
	"rota/sets"
)

// IsOrder: is p an order of n elements? The layers below ask it too.
func IsOrder(n int, p []int) bool {
	taken := 0
	for _, x := range p {
		if x < 0 || x >= n || taken>>x&1 == 1 {
			return false
		}
		taken |= 1 << x
	}
	return len(p) == n
}

// isNoGreater: the sets whose images are bases are a list, as far as it is
// known; is it no greater than the least one so far? The list that has the
// first set that only one has is the lesser.
func isNoGreater(images []int, isBasis, least []bool) bool {
	for s, image := range images {
		if isBasis[image] != least[s] {
			return isBasis[image]
		}
	}
	return true
}

// eachBetween hands to found the orders that make Rename of a be b, rising, as
// long as it says that more are wanted.
func eachBetween(a, b api.Matroid, found func(o order) bool) api.Errno {
	ofA, ofB, e := axioms.RanksOfBoth(a, b)
	if e != api.OK {
		return e
	}
	// Without like numbers of bases there is none, but it may take all orders
	// to see it.
	if a.N != b.N || len(a.Bases) != len(b.Bases) {
		return api.OK
	}
	eachOrder(a.N, func(o order) bool { return keepsRanks(o.images, ofA, ofB) }, found)
	return api.OK
}

// keepsRanks: has each set with the last element the rank that its image has?
// The sets without it were asked about when the order was shorter.
func keepsRanks(images, ofA, ofB []int) bool {
	for s := len(images) / 2; s < len(images); s++ {
		if ofA[s] != ofB[images[s]] {
			return false
		}
	}
	return true
}

// contraction: the least set by which to contract what is left of m without
// the set d, so that it is k but for names; is there one?
func contraction(m, k api.Matroid, d int) (int, bool) {
	kept := sets.Whole(m.N) &^ d
	tooMany := sets.Size(kept) - k.N
	if tooMany < 0 {
		return 0, false
	}
	left, _ := minors.Delete(m, d)
	choices, _ := sets.Choose(left.N, tooMany)
	for _, c := range choices {
		minor, _ := minors.Contract(left, c)
		if _, e := Isomorphic(minor, k); e == api.OK {
			return sets.OldNames(c, kept), true
		}
	}
	return 0, false
}
