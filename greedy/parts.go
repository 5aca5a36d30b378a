package greedy

import (
	"cmp"
	"slices"

	"rota/api"
	"rota/axioms"
	"rota/sets"
)

// CheckWeights: is w a weight for each of n elements? The layers below that
// are handed weights ask it too.
func CheckWeights(n int, w []int) api.Errno {
	return sets.CheckNumbers(n, w, -api.MaxNumber, api.MaxNumber)
}

// Weigh the elements of s together: for the layers below, too; w and s are
// taken as they are.
func Weigh(w []int, s int) int {
	sum := 0
	for i, x := range w {
		if sets.Within(1<<i, s) {
			sum += x
		}
	}
	return sum
}

// heaviestFirst: the order by the weights; of the same weight the lesser
// element stays ahead.
func heaviestFirst(w []int) []int {
	order := make([]int, len(w))
	for i := range order {
		order[i] = i
	}
	slices.SortStableFunc(order, func(x, y int) int { return cmp.Compare(w[y], w[x]) })
	return order
}

// grow the greedy basis by an order: no elements, and what is taken behind
// each that is.
func grow(r, order []int) []int {
	steps := []int{0}
	for _, x := range order {
		if more := last(steps) | 1<<x; axioms.IsIndependent(r, more) {
			steps = append(steps, more)
		}
	}
	return steps
}

// last of a list that has one.
func last(l []int) int { return l[len(l)-1] }
