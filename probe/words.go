package probe

import (
	"math/bits"
	"slices"

	"rota/api"
)

// What follows asks the words of P7 at length, one set at a time.

// Elements of a number's bits, asked one by one.
func Elements(s int) []int {
	var l []int
	for e := range 62 {
		if s>>e&1 == 1 {
			l = append(l, e)
		}
	}
	return l
}

// Independent: is s, in m?
func Independent(m api.Matroid, s int) bool {
	return slices.ContainsFunc(m.Bases, func(b int) bool { return b&s == s })
}

// Circuit: is s one of m?
func Circuit(m api.Matroid, s int) bool {
	for o := range s {
		if o&s == o && !Independent(m, o) {
			return false
		}
	}
	return !Independent(m, s)
}

// Rank of s in m.
func Rank(m api.Matroid, s int) int {
	most := 0
	for _, b := range m.Bases {
		most = max(most, bits.OnesCount(uint(b&s)))
	}
	return most
}

// RanksAndSizes: how many sets of m have each rank and number of elements.
func RanksAndSizes(m api.Matroid) (many [api.MaxGround + 1][api.MaxGround + 1]int64) {
	for s := range 1 << m.N {
		many[Rank(m, s)][len(Elements(s))]++
	}
	return many
}

// Flat: is s one of m?
func Flat(m api.Matroid, s int) bool {
	for x := range m.N {
		if s>>x&1 == 0 && Rank(m, s) >= Rank(m, s+1<<x) {
			return false
		}
	}
	return true
}

// Hyperplane: is s one of m?
func Hyperplane(m api.Matroid, s int) bool {
	return Flat(m, s) && Rank(m, s)+1 == Rank(m, 1<<m.N-1)
}
