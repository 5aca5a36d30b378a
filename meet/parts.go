package meet

import (
	"rota/axioms"
	"rota/greedy"
	"rota/sets"
)

// independentInBoth: the sets that are, rising, by the ranks of all sets.
func independentInBoth(ofA, ofB []int) []int {
	var l []int
	for s := range ofA {
		if axioms.IsIndependent(ofA, s) && axioms.IsIndependent(ofB, s) {
			l = append(l, s)
		}
	}
	return l
}

// largest of a list that rises and has the empty set; of several the least.
func largest(l []int) int {
	found := 0
	for _, s := range l {
		if sets.Size(s) > sets.Size(found) {
			found = s
		}
	}
	return found
}

// tightest: the set for which its rank in a and the rank in b of all other
// elements are together the fewest; of several the least. By Edmonds these
// are as many as the largest common set has elements.
func tightest(ofA, ofB []int) int {
	all := len(ofA) - 1
	found := 0
	for u := range ofA {
		if ofA[u]+ofB[all&^u] < ofA[found]+ofB[all&^found] {
			found = u
		}
	}
	return found
}

// heaviestOfEachSize: of the sets of l that have no element, one, two and so
// on, the heaviest; of several the least, since l rises.
func heaviestOfEachSize(l, w []int) []int {
	var found []int
	for _, s := range l {
		size := sets.Size(s)
		// With s all that lies in it is in l, and comes ahead of it: so no
		// size comes before those below it.
		if size == len(found) {
			found = append(found, s)
		} else if greedy.Weigh(w, s) > greedy.Weigh(w, found[size]) {
			found[size] = s
		}
	}
	return found
}

// closedInBoth: s, and what comes to it in a and in b, till nothing does. An
// element that may come still may when others have: so the order makes no
// difference, and all that may come in one matroid may come at once.
func closedInBoth(ofA, ofB []int, s int) int {
	for {
		more := axioms.Closed(ofB, axioms.Closed(ofA, s))
		if more == s {
			return s
		}
		s = more
	}
}
