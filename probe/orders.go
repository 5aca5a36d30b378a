package probe

import (
	"slices"

	"rota/api"
)

// Orders of n elements, all of them: of two the one with the lesser number at
// the first place at which they differ is first.
func Orders(n int) [][]int {
	all := [][]int{nil}
	for range n {
		var longer [][]int
		for _, l := range all {
			for v := range n {
				if !slices.Contains(l, v) {
					longer = append(longer, append(l[:len(l):len(l)], v))
				}
			}
		}
		all = longer
	}
	return all
}

// SomeOrders of n elements: all of few, and some of many.
func SomeOrders(n int) [][]int {
	all := Orders(n)
	if n <= 5 {
		return all
	}
	var some [][]int
	var jumps Jumps
	for range 20 {
		some = append(some, all[jumps.Next(len(all))])
	}
	return append(some, all[0], all[1], all[len(all)-1])
}

// NoOrders are nearly the order p, but none of as many elements: one number is
// wrong, comes twice, or is missing.
func NoOrders(p []int) [][]int {
	n := len(p)
	wrong := [][]int{append(slices.Clone(p), n), append(slices.Clone(p), 0), append([]int{-1}, p...)}
	for i := range p {
		wrong = append(wrong, slices.Delete(slices.Clone(p), i, i+1))
		for _, x := range append(Wide(), n, p[(i+1)%n]) {
			if x == p[i] {
				continue
			}
			l := slices.Clone(p)
			l[i] = x
			wrong = append(wrong, l)
		}
	}
	return wrong
}

// Renamed: m, in which each element has its number of the order.
func Renamed(m api.Matroid, order []int) api.Matroid {
	var bases []int
	for _, b := range m.Bases {
		renamed := 0
		for i, x := range order {
			if b>>i&1 == 1 {
				renamed |= 1 << x
			}
		}
		bases = append(bases, renamed)
	}
	slices.Sort(bases)
	return api.Matroid{N: m.N, Bases: bases}
}

// Inverse of an order: the one that names back.
func Inverse(order []int) []int {
	back := make([]int, len(order))
	for i, x := range order {
		back[x] = i
	}
	return back
}
