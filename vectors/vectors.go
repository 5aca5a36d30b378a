// Package vectors: lists of whole numbers, all of one length, as a matroid, and
// the signs of sums that are nought, and of functions. It takes them as they
// are: at most eight, of at most four numbers from -1000 to 1000, so that every
// determinant has room in an int64.
package vectors

import (
	"rota/api"
	"rota/axioms"
	"rota/sets"
)

// Matroid of the vectors, by their places: a set is independent if no sum of
// multiples of its vectors is nought but that of noughts.
func Matroid(l [][]int) api.Matroid {
	return axioms.WithIndependents(len(l), func(s int) bool {
		_, ok := spread(picked(l, s))
		return ok
	})
}

// Circuits: the signs of the multiples in all sums that are nought and have of
// the vectors just those of a circuit, each once.
func Circuits(l [][]int) []api.Signs {
	circuits, _ := axioms.Circuits(Matroid(l))
	var all []api.Signs
	for _, c := range circuits {
		all = append(all, bothWays(multiples(l, c))...)
	}
	return all
}

// Cocircuits: the signs of all functions that are 0 at a hyperplane and at
// nothing else, each once. The determinant of a basis of the hyperplane and one
// vector more is such a function of that vector, in the columns in which the
// vectors together are spread; all others are multiples of it.
func Cocircuits(l [][]int) []api.Signs {
	m := Matroid(l)
	columns, _ := spread(picked(l, m.Bases[0]))
	hyperplanes, _ := axioms.Hyperplanes(m)
	var all []api.Signs
	for _, h := range hyperplanes {
		rows := picked(l, basisWithin(m, h))
		x := signs(l, func(v []int) int64 { return Determinant(append([][]int{v}, rows...), columns) })
		all = append(all, bothWays(x)...)
	}
	return all
}

// Covectors: the signs of all functions of vectors (sums of numbers times
// coordinates), each once: the vectors at which one is above 0, and those at
// which it is below. All come of the cocircuits, one laid behind the other.
func Covectors(l [][]int) []api.Signs {
	steps := Cocircuits(l)
	all := []api.Signs{{}}
	found := map[api.Signs]int{{}: 1}
	for i := 0; i < len(all); i++ {
		for _, step := range steps {
			next := laidBehind(step, all[i])
			if found[next]++; found[next] == 1 {
				all = append(all, next)
			}
		}
	}
	return all
}

// Determinant of as many rows as there are columns, by Laplace's rule: each
// number of the first row times the determinant of what is in other rows and
// columns, added and taken away by turns. Who calls knows that there is room.
func Determinant(rows [][]int, columns int) int64 {
	if len(rows) == 0 {
		return 1
	}
	sum, sign := int64(0), int64(1)
	for j, v := range rows[0] {
		if columns>>j&1 == 0 {
			continue
		}
		sum += sign * int64(v) * Determinant(rows[1:], columns&^(1<<j))
		sign = -sign
	}
	return sum
}

// picked: the vectors of s, in their order.
func picked(l [][]int, s int) [][]int {
	var some [][]int
	for i, v := range l {
		if s>>i&1 == 1 {
			some = append(some, v)
		}
	}
	return some
}

// spread: as many columns as there are rows, in which the determinant is not 0.
// There are some just if the rows are independent.
func spread(rows [][]int) (columns int, ok bool) {
	if len(rows) == 0 {
		return 0, true
	}
	for c := range 1 << len(rows[0]) {
		if sets.Size(c) == len(rows) && Determinant(rows, c) != 0 {
			return c, true
		}
	}
	return 0, false
}

// multiples: the signs with which the vectors of a circuit add up to nought. By
// Cramer's rule the multiple of each is the determinant of the others, its sign
// turned at every second one. The columns in which all but one are spread do
// for each, since whichever is left out, the others span the same.
func multiples(l [][]int, circuit int) api.Signs {
	columns, _ := spread(picked(l, circuit&^sets.Lowest(circuit)))
	sign := int64(1)
	var x api.Signs
	for one := range sets.Singles(circuit) {
		if sign*Determinant(picked(l, circuit&^one), columns) > 0 {
			x.Above |= one
		} else {
			x.Below |= one
		}
		sign = -sign
	}
	return x
}

// bothWays: signs, and their opposite.
func bothWays(x api.Signs) []api.Signs {
	return []api.Signs{x, {Above: x.Below, Below: x.Above}}
}

// basisWithin a set: the most that a basis has of it.
func basisWithin(m api.Matroid, s int) int {
	most := 0
	for _, b := range m.Bases {
		if sets.Size(b&s) > sets.Size(most) {
			most = b & s
		}
	}
	return most
}

// signs of a function at each vector.
func signs(l [][]int, function func(v []int) int64) api.Signs {
	var x api.Signs
	for i, v := range l {
		switch value := function(v); {
		case value > 0:
			x.Above |= 1 << i
		case value < 0:
			x.Below |= 1 << i
		}
	}
	return x
}

// laidBehind: the signs of a sum of two functions, if the one behind is taken so
// few times that it is seen only where the other one is 0.
func laidBehind(behind, x api.Signs) api.Signs {
	free := ^(x.Above | x.Below)
	return api.Signs{Above: x.Above | behind.Above&free, Below: x.Below | behind.Below&free}
}
