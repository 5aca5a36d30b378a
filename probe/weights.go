package probe

import (
	"slices"

	"rota/api"
)

// Weight of the elements of s together.
func Weight(w []int, s int) int {
	sum := 0
	for _, i := range Elements(s) {
		sum += w[i]
	}
	return sum
}

// weights of n elements, each one of these.
func weights(n int, choice ...int) [][]int {
	all := [][]int{nil}
	for range n {
		var longer [][]int
		for _, w := range all {
			for _, x := range choice {
				longer = append(longer, append(w[:len(w):len(w)], x))
			}
		}
		all = longer
	}
	return all
}

// SomeWeights of n elements: all of a few numbers where there are few, and
// such as jump about, with the same one again and at the edges.
func SomeWeights(n int) [][]int {
	var some [][]int
	if n <= 4 {
		some = weights(n, -1000, -1, 0, 1000)
	}
	var jumps Jumps
	for _, far := range []int{1, 2, 1000} {
		for range 12 {
			w := make([]int, n)
			for i := range w {
				w[i] = jumps.Next(2*far+1) - far
			}
			some = append(some, w)
		}
	}
	return some
}

// RefusedList are no weights, and how they are refused.
type RefusedList struct {
	L    []int
	Want api.Errno
}

// NoWeights of n elements, beside what P16 says of them.
func NoWeights(n int) []RefusedList { return NoNumbers(n, -1000, 1000) }

// NoNumbers: not n of them, or not all from least to most.
func NoNumbers(n, least, most int) []RefusedList {
	right := slices.Repeat([]int{most}, n)
	wrong := []RefusedList{
		{append(slices.Clone(right), least), api.ErrShape},
		// It has a number that is none, but what is told first holds.
		{append(slices.Clone(right), most+1), api.ErrShape},
	}
	if n > 0 {
		wrong = append(wrong, RefusedList{right[1:], api.ErrShape})
	}
	for i := range right {
		for _, x := range append(Wide(), least-1, most+1) {
			if x < least || x > most {
				l := slices.Clone(right)
				l[i] = x
				wrong = append(wrong, RefusedList{l, api.ErrArg})
			}
		}
	}
	for _, l := range Lists() {
		if len(l) != n {
			wrong = append(wrong, RefusedList{l, api.ErrShape})
		}
	}
	return wrong
}
