package repr

import (
	"slices"

	"rota/api"
	"rota/axioms"
	"rota/kinds"
	"rota/minors"
	"rota/sets"
)

// parts of m: what it is on its first elements, from none of them to all.
func parts(m api.Matroid) []api.Matroid {
	l := make([]api.Matroid, m.N+1)
	for n := range l {
		behind := sets.Whole(m.N) &^ sets.Whole(n)
		l[n], _ = minors.Delete(m, behind)
	}
	return l
}

// goOn with a matrix of the first elements: one of all, if there is one that
// begins so and is, on the elements of each part, what that part is.
func goOn(parts []api.Matroid, x api.Matrix) (api.Matrix, bool) {
	whole := parts[len(parts)-1]
	if x.Cols == whole.N {
		return x, true
	}
	for _, column := range choices(whole, x) {
		longer := with(x, column)
		if !isLinear(parts[longer.Cols], longer) {
			continue
		}
		if all, ok := goOn(parts, longer); ok {
			return all, true
		}
	}
	return api.Matrix{}, false
}

// choices of the next column. Rows can be added to each other until the columns
// of the first basis have one 1 each, each in a row of its own. Then the column
// of any element is not 0 just in the rows of those for which it can come into
// the basis (one of the basis: for itself alone). What it is there need not all
// be tried: a row that has nothing but its own 1 so far can be multiplied until
// it has 1 here, and the column until it has 1 in the first of the other rows.
// (The first basis is the least, so an element comes in only for those ahead of
// it, whose 1 is there.)
func choices(m api.Matroid, x api.Matrix) [][]int {
	basis, element := m.Bases[0], 1<<x.Cols
	l := [][]int{nil}
	values := []int{1}
	row := 0
	for b := range sets.Singles(basis) {
		switch {
		case !axioms.IsBasis(m, basis&^b|element):
			l = lengthened(l, 0)
		case isFresh(x.Rows[row]):
			l = lengthened(l, 1)
		default:
			l = lengthened(l, values...)
			values = upTo(x.P - 1)
		}
		row++
	}
	return l
}

// isFresh: has a row at most one number that is not 0?
func isFresh(row []int) bool {
	count := 0
	for _, v := range row {
		if v != 0 {
			count++
		}
	}
	return count <= 1
}

// upTo most: the numbers from 1 on.
func upTo(most int) []int {
	var l []int
	for v := 1; v <= most; v++ {
		l = append(l, v)
	}
	return l
}

// lengthened: each list with each of these numbers behind it.
func lengthened(lists [][]int, numbers ...int) [][]int {
	var longer [][]int
	for _, list := range lists {
		for _, v := range numbers {
			longer = append(longer, slices.Concat(list, []int{v}))
		}
	}
	return longer
}

// with one column more. The rows are new, so that each matrix has its own.
func with(x api.Matrix, column []int) api.Matrix {
	longer := api.Matrix{P: x.P, Cols: x.Cols + 1, Rows: make([][]int, len(x.Rows))}
	for i, row := range x.Rows {
		longer.Rows[i] = slices.Concat(row, column[i:i+1])
	}
	return longer
}

// isLinear: is m Linear of x?
func isLinear(m api.Matroid, x api.Matrix) bool {
	k, e := kinds.Linear(x)
	return e == api.OK && k.N == m.N && slices.Equal(k.Bases, m.Bases)
}
