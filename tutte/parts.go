package tutte

import (
	"slices"

	"rota/api"
	"rota/axioms"
	"rota/sets"
	"rota/wide"
)

// isFrom least to most: is n?
func isFrom(least, most, n int) bool { return n >= least && n <= most }

// activities of the basis b: the elements of it, and those that it has not,
// that change places with no lesser one.
func activities(m api.Matroid, b int) (within, without int) {
	for x := range sets.Singles(sets.Whole(m.N)) {
		switch {
		case changesWithLesser(m, b, x):
		case sets.Within(x, b):
			within |= x
		default:
			without |= x
		}
	}
	return within, without
}

// changesWithLesser: does b stay a basis if x, and an element less than it,
// come or go? If b has both of them or neither, two elements too few or too
// many are left, so that it does not.
func changesWithLesser(m api.Matroid, b, x int) bool {
	for y := range sets.Singles(x - 1) {
		if axioms.IsBasis(m, b^x^y) {
			return true
		}
	}
	return false
}

// polynomial of m, by Crapo's sum: it has no signs, and is done basis by basis.
func polynomial(m api.Matroid) [][]int64 {
	rank := sets.Size(m.Bases[0])
	rows := make([][]int64, rank+1)
	for i := range rows {
		rows[i] = make([]int64, m.N-rank+1)
	}
	for _, b := range m.Bases {
		within, without := activities(m, b)
		rows[sets.Size(within)][sets.Size(without)]++
	}
	return rows
}

// valueAt x and y, by Horner's rule. The coefficients are 70 together at most,
// so that no number on the way is more than 70 times 1000 to the power of 8.
func valueAt(rows [][]int64, x, y int) wide.Int {
	var value wide.Int
	for _, row := range slices.Backward(rows) {
		var ofRow wide.Int
		for _, c := range slices.Backward(row) {
			ofRow = ofRow.Times(wide.Of(y)).Plus(wide.Of(int(c)))
		}
		value = value.Times(wide.Of(x)).Plus(ofRow)
	}
	return value
}

// reliability by the ranks of all sets of edges: all vertices hang together by
// those whose rank is one less than there are vertices. Of each edge that goes
// there are down less up cases, of each that stays up.
func reliability(g api.Graph, ranks []int, up, down int) string {
	stays, goes := wide.Of(up), wide.Of(down-up)
	var cases wide.Int
	for s, rank := range ranks {
		if rank == g.N-1 {
			n := sets.Size(s)
			cases = cases.Plus(stays.Power(n).Times(goes.Power(len(g.Edges) - n)))
		}
	}
	return wide.Fraction(cases, wide.Of(down).Power(len(g.Edges)))
}
