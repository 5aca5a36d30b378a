package orient

import (
	"cmp"
	"slices"

	"rota/api"
	"rota/vectors"
)

// Limits of P32.
const (
	mostCoordinates = 4
	mostVectors     = 7
	mostNumber      = 20
)

// isVector: is v one of d numbers?
func isVector(d int, v []int) bool { return len(v) == d && !slices.ContainsFunc(v, isFar) }

func isFar(v int) bool { return v < -mostNumber || v > mostNumber }

// inOrder: signs of vectors, if these are some, in the order of P32.
func inOrder(d int, l [][]int, signsOf func(l [][]int) []api.Signs) ([]api.Signs, api.Errno) {
	if e := Check(d, l); e != api.OK {
		return nil, e
	}
	all := signsOf(l)
	slices.SortFunc(all, func(a, b api.Signs) int {
		return cmp.Or(cmp.Compare(either(a), either(b)), cmp.Compare(a.Above, b.Above))
	})
	return all, api.OK
}

// either: the elements that are above or below.
func either(x api.Signs) int { return x.Above | x.Below }

// isAbove: is no element below?
func isAbove(x api.Signs) bool { return x.Below == 0 }

// topes: the signs of the functions that are 0 only where all are.
func topes(l [][]int) []api.Signs {
	rest := notNought(l)
	return slices.DeleteFunc(vectors.Covectors(l), func(x api.Signs) bool { return either(x) != rest })
}

// notNought: the vectors that are not all 0.
func notNought(l [][]int) int {
	some := 0
	for i, v := range l {
		if slices.ContainsFunc(v, func(number int) bool { return number != 0 }) {
			some |= 1 << i
		}
	}
	return some
}

// opposite: v, the sign of each number turned.
func opposite(v []int) []int {
	turned := make([]int, 0, len(v))
	for _, number := range v {
		turned = append(turned, -number)
	}
	return turned
}
