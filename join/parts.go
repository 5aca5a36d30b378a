package join

import (
	"rota/api"
	"rota/axioms"
	"rota/sets"
)

// ranksWithoutLoops: the ranks of all sets of m; ErrNone, if it has a loop.
func ranksWithoutLoops(m api.Matroid) ([]int, api.Errno) {
	r, e := axioms.Ranks(m)
	if e != api.OK {
		return nil, e
	}
	for x := range sets.Singles(sets.Whole(m.N)) {
		if r[x] == 0 {
			return nil, api.ErrNone
		}
	}
	return r, api.OK
}

// ranksAboveNought: the ranks of all sets of m; ErrNone, if all are 0.
func ranksAboveNought(m api.Matroid) ([]int, api.Errno) {
	r, e := axioms.Ranks(m)
	if e != api.OK {
		return nil, e
	}
	if r[sets.Whole(m.N)] == 0 {
		return nil, api.ErrNone
	}
	return r, api.OK
}

// canBeShared: can s be cut into a set that is independent in a and one that
// is in b? Two that have elements together need not be asked: what one of them
// keeps without these is independent too.
func canBeShared(ofA, ofB []int, s int) bool {
	for t := range s + 1 {
		if sets.Within(t, s) && axioms.IsIndependent(ofA, t) && axioms.IsIndependent(ofB, s&^t) {
			return true
		}
	}
	return false
}

// coversBegin: for each set the least independent set, with its least element,
// with which it is cut into as few as may be. There is one, if there are no
// loops; for no elements it is the empty set.
func coversBegin(r []int) []int {
	first, count := make([]int, len(r)), make([]int, len(r))
	for s := 1; s < len(r); s++ {
		count[s] = sets.Size(s) + 1
		for t := range s + 1 {
			begins := sets.Within(sets.Lowest(s), t) && sets.Within(t, s) && axioms.IsIndependent(r, t)
			if begins && count[s&^t]+1 < count[s] {
				first[s], count[s] = t, count[s&^t]+1
			}
		}
	}
	return first
}

// packsBegin: for each set the least basis of m with which as many as may be
// are packed into it; where there is none, the empty set, which is no basis of
// a rank above 0. The lists rise of themselves: of the bases that are packed
// the least is as good a first one as any.
func packsBegin(m api.Matroid) []int {
	first, count := make([]int, 1<<m.N), make([]int, 1<<m.N)
	for s := range first {
		for _, b := range m.Bases {
			if sets.Within(b, s) && count[s&^b]+1 > count[s] {
				first[s], count[s] = b, count[s&^b]+1
			}
		}
	}
	return first
}

// takeAll: what is taken from s, as long as something is, if of what is left
// always the first is.
func takeAll(first []int, s int) []int {
	var l []int
	for first[s] != 0 {
		l = append(l, first[s])
		s &^= first[s]
	}
	return l
}
