package probe

import (
	"slices"

	"rota/api"
)

// Orders of n elements, all of them: of two the one with the lesser number at
// the first place at which they differ is first.
func Orders(n int) [][]int {
	all := [][]int{nil}
	for range n {
		var longer [][]int
		for _, l := range all {
			for v := range n {
				if !slices.Contains(l, v) {
					longer = append(longer, append(l[:len(l):len(l)], v))
				}
			}
		}
		all = longer
	}
	return all
}

// Renamed: m, in which each element has its number of the order.
func Renamed(m api.Matroid, order []int) api.Matroid {
	var bases []int
	for _, b := range m.Bases {
		renamed := 0
		for i, x := range order {
			if b>>i&1 == 1 {
				renamed |= 1 << x
			}
		}
		bases = append(bases, renamed)
	}
	slices.Sort(bases)
	return api.Matroid{N: m.N, Bases: bases}
}

// Inverse of an order: the one that names back.
func Inverse(order []int) []int {
	back := make([]int, len(order))
	for i, x := range order {
		back[x] = i
	}
	return back
}
