package arrange

import (
	"slices"

	"rota/api"
	"rota/axioms"
	"rota/sets"
	"rota/vectors"
)

// Limits of P29.
const (
	mostCoordinates = 3
	mostPlanes      = 6
)

// isPlane: is p one in a space of d coordinates?
func isPlane(d int, p api.Plane) bool {
	if len(p.Normal) != d || isFar(p.At) || slices.ContainsFunc(p.Normal, isFar) {
		return false
	}
	return slices.ContainsFunc(p.Normal, func(v int) bool { return v != 0 })
}

func isFar(v int) bool { return v < -api.MaxNumber || v > api.MaxNumber }

// lifted: each plane as a vector, its At, with the sign turned, being one
// coordinate more. So a point, with 1 behind its coordinates, is a function of
// vectors that is above 0 at the planes above which the point lies. One vector
// more, the edge, has that 1 alone: functions that are above 0 there are points
// or multiples of these, and vectors of planes that have no point together are
// those of which it is a sum of multiples.
func lifted(d int, l []api.Plane) [][]int {
	up := make([][]int, 0, len(l)+1)
	for _, p := range l {
		up = append(up, append(slices.Clone(p.Normal), -p.At))
	}
	last := make([]int, d+1)
	last[d] = 1
	return append(up, last)
}

// edge: the place of the edge behind the planes, as a set.
func edge(l []api.Plane) int { return 1 << len(l) }

// ranks of all sets of planes, and then of these with the edge.
func ranks(d int, l []api.Plane) []int {
	r, _ := axioms.Ranks(vectors.Matroid(lifted(d, l)))
	return r
}

// characteristic: the coefficients. What planes have together, if anything, has
// as many dimensions less as their rank is.
func characteristic(d int, l []api.Plane) []int64 {
	r := ranks(d, l)
	coefficients := make([]int64, d+1)
	for s := range edge(l) {
		if r[s|edge(l)] == r[s] {
			continue
		}
		if sets.Size(s)%2 == 0 {
			coefficients[d-r[s]]++
		} else {
			coefficients[d-r[s]]--
		}
	}
	return coefficients
}

// valueAt t of a polynomial, without its sign.
func valueAt(t int64, coefficients []int64) int {
	value := int64(0)
	for _, c := range slices.Backward(coefficients) {
		value = value*t + c
	}
	return int(max(value, -value))
}

// faces: the signs of each.
func faces(d int, l []api.Plane) []api.Signs {
	var found []api.Signs
	for _, x := range vectors.Covectors(lifted(d, l)) {
		if x.Above >= edge(l) {
			found = append(found, api.Signs{Above: x.Above - edge(l), Below: x.Below})
		}
	}
	return found
}

// planesOf a face: those in which it lies.
func planesOf(l []api.Plane, face api.Signs) int {
	return sets.Whole(len(l)) - face.Above - face.Below
}
