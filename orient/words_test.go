package orient_test

import (
	"slices"

	"rota/api"
	"rota/probe"
)

// What follows asks the words of the chapter at length: for any signs, whether
// there are multiples, or functions, that have them.

// need: a sum of numbers times what is looked for is to be above 0, or 0.
type need struct {
	sum    []int
	isMore bool
}

// isPossible: is there something that meets all needs? One number after another
// goes away, as Fourier and Motzkin do. (There is room: of functions the numbers
// are at most 20 at first, each step makes at most twice their square, and of
// four steps the last one leaves no numbers. Of multiples those that are left
// divide determinants.)
func isPossible(needs []need) bool {
	if !slices.ContainsFunc(needs, func(n need) bool { return n.isMore }) {
		return true
	}
	if len(needs[0].sum) == 0 {
		return false
	}
	for i, n := range needs {
		if !n.isMore && n.sum[0] != 0 {
			return isPossible(putIn(n, slices.Delete(slices.Clone(needs), i, i+1)))
		}
	}
	return isPossible(between(needs))
}

// putIn all others what the first number is, since a sum with it is 0.
func putIn(n need, others []need) []need {
	var left []need
	for _, o := range others {
		size, times := n.sum[0], -o.sum[0]
		if size < 0 {
			size, times = -size, -times
		}
		left = append(left, need{added(size, o.sum, times, n.sum), o.isMore})
	}
	return left
}

// between: the first number is to be above some sums and below others; there is
// one, if each of the former is below each of the latter.
func between(needs []need) []need {
	var left []need
	for _, low := range needs {
		if low.sum[0] == 0 {
			left = append(left, need{low.sum[1:], low.isMore})
		}
		for _, high := range needs {
			if low.sum[0] > 0 && high.sum[0] < 0 {
				left = append(left, need{added(-high.sum[0], low.sum, low.sum[0], high.sum), true})
			}
		}
	}
	return left
}

// added: a times the one and b times the other, whose first number is 0 then
// and is left out; divided by what divides all, so that numbers stay small.
func added(a int, one []int, b int, other []int) []int {
	sum, divisor := make([]int, len(one)-1), 0
	for i := range sum {
		sum[i] = a*one[i+1] + b*other[i+1]
		divisor = greatest(divisor, sum[i])
	}
	for i := range sum {
		sum[i] /= max(divisor, 1)
	}
	return sum
}

// greatest number that divides both.
func greatest(a, b int) int {
	for b != 0 {
		a, b = b, a%b
	}
	return max(a, -a)
}

// matroid of the vectors.
func matroid(l [][]int) api.Matroid {
	return probe.WithIndependents(len(l), func(s int) bool {
		return probe.RankOfRows(picked(l, s)) == len(probe.Elements(s))
	})
}

func picked(l [][]int, s int) [][]int {
	var some [][]int
	for _, i := range probe.Elements(s) {
		some = append(some, l[i])
	}
	return some
}

// signsOn the elements of s, all that are possible, in order.
func signsOn(s int, isSo func(x api.Signs) bool) []api.Signs {
	var all []api.Signs
	for above := range s + 1 {
		if x := (api.Signs{Above: above, Below: s &^ above}); above&^s == 0 && isSo(x) {
			all = append(all, x)
		}
	}
	return all
}

// signOf an element: 1 above, -1 below, 0 where it is neither.
func signOf(x api.Signs, i int) int { return x.Above>>i&1 - x.Below>>i&1 }

func times(a int, v []int) []int {
	var product []int
	for _, number := range v {
		product = append(product, a*number)
	}
	return product
}

// isSumNought: is a sum of multiples with these signs, of no others, nought?
func isSumNought(d int, l [][]int, x api.Signs) bool {
	elements := probe.Elements(x.Above | x.Below)
	var needs []need
	for j := range d {
		var sum []int
		for _, i := range elements {
			sum = append(sum, l[i][j])
		}
		needs = append(needs, need{sum: sum})
	}
	for at, i := range elements {
		sum := make([]int, len(elements))
		sum[at] = signOf(x, i)
		needs = append(needs, need{sum, true})
	}
	return isPossible(needs)
}

// isFunction: has a function these signs?
func isFunction(l [][]int, x api.Signs) bool {
	var needs []need
	for i, v := range l {
		if sign := signOf(x, i); sign == 0 {
			needs = append(needs, need{sum: v})
		} else {
			needs = append(needs, need{times(sign, v), true})
		}
	}
	return isPossible(needs)
}

// circuits: what Circuits is to be.
func circuits(x given) []api.Signs {
	var all []api.Signs
	m := matroid(x.l)
	for s := range 1 << len(x.l) {
		if probe.Circuit(m, s) {
			all = append(all, signsOn(s, func(signs api.Signs) bool { return isSumNought(x.d, x.l, signs) })...)
		}
	}
	return all
}

// cocircuits: what Cocircuits is to be.
func cocircuits(x given) []api.Signs {
	var all []api.Signs
	m := matroid(x.l)
	for s := range 1 << len(x.l) {
		if probe.Hyperplane(m, 1<<len(x.l)-1-s) {
			all = append(all, signsOn(s, func(signs api.Signs) bool { return isFunction(x.l, signs) })...)
		}
	}
	return all
}

// topes: what Topes is to be.
func topes(x given) []api.Signs {
	some := 0
	for i, v := range x.l {
		if slices.ContainsFunc(v, func(number int) bool { return number != 0 }) {
			some |= 1 << i
		}
	}
	return signsOn(some, func(signs api.Signs) bool { return isFunction(x.l, signs) })
}
