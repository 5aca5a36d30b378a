package arrange_test

import (
	"math/big"
	"slices"

	"rota/api"
	"rota/probe"
)

// What follows asks the words of the chapter at length: for each sign of each
// plane, whether there is such a point.

// need: what a point is asked for: a sum of numbers times its coordinates, and
// of one number more, is to be of a kind.
type need struct {
	sum  []*big.Int
	kind int
}

// Kinds of needs.
const (
	isNone  = iota // the sum is 0
	isMore         // it is above 0
	notLess        // it is 0 or above
)

// needOf numbers, many times over.
func needOf(kind, times int, numbers ...int) need {
	n := need{kind: kind}
	for _, v := range numbers {
		n.sum = append(n.sum, big.NewInt(int64(times*v)))
	}
	return n
}

// added: a times the one, and b times the other, of which one place is 0 then
// and is left out.
func added(a *big.Int, one need, b *big.Int, other need, at int) []*big.Int {
	var sum []*big.Int
	for i := range one.sum {
		if i != at {
			x, y := new(big.Int).Mul(a, one.sum[i]), new(big.Int).Mul(b, other.sum[i])
			sum = append(sum, x.Add(x, y))
		}
	}
	return sum
}

// isPossible: is there a point that meets all needs? Coordinate by coordinate,
// as Fourier and Motzkin do.
func isPossible(needs []need) bool {
	if len(needs) == 0 {
		return true
	}
	if len(needs[0].sum) == 1 {
		return !slices.ContainsFunc(needs, isBroken)
	}
	for i, n := range needs {
		if n.kind == isNone && n.sum[0].Sign() != 0 {
			return isPossible(putIn(n, slices.Delete(slices.Clone(needs), i, i+1)))
		}
	}
	return isPossible(between(needs))
}

// isBroken: is what is asked of a number not so?
func isBroken(n need) bool {
	s := n.sum[0].Sign()
	return n.kind == isNone && s != 0 || n.kind == isMore && s <= 0 || n.kind == notLess && s < 0
}

// putIn all others what the first coordinate is, since a sum with it is 0.
func putIn(n need, others []need) []need {
	var left []need
	size, back := new(big.Int).Abs(n.sum[0]), big.NewInt(int64(-n.sum[0].Sign()))
	for _, o := range others {
		left = append(left, need{added(size, o, new(big.Int).Mul(back, o.sum[0]), n, 0), o.kind})
	}
	return left
}

// between: the first coordinate is to be above some sums and below others; it
// can, if each of the former is below each of the latter.
func between(needs []need) []need {
	var left []need
	for _, low := range needs {
		if low.sum[0].Sign() == 0 {
			left = append(left, need{low.sum[1:], low.kind})
		}
		for _, high := range needs {
			if low.sum[0].Sign() > 0 && high.sum[0].Sign() < 0 {
				sum := added(new(big.Int).Neg(high.sum[0]), low, low.sum[0], high, 0)
				left = append(left, need{sum, min(low.kind, high.kind)})
			}
		}
	}
	return left
}

// needsOf signs: to be in the first planes, above or below them.
func needsOf(l []api.Plane, x api.Signs, many int) []need {
	var needs []need
	for i, p := range l[:many] {
		row := append(slices.Clone(p.Normal), -p.At)
		switch {
		case x.Above>>i&1 == 1:
			needs = append(needs, needOf(isMore, 1, row...))
		case x.Below>>i&1 == 1:
			needs = append(needs, needOf(isMore, -1, row...))
		default:
			needs = append(needs, needOf(isNone, 1, row...))
		}
	}
	return needs
}

// allFaces, plane by plane.
func allFaces(l []api.Plane) []api.Signs {
	all := []api.Signs{{}}
	for i := range l {
		var more []api.Signs
		for _, x := range all {
			for _, y := range []api.Signs{x, {Above: x.Above | 1<<i, Below: x.Below}, {Above: x.Above, Below: x.Below | 1<<i}} {
				if isPossible(needsOf(l, y, i+1)) {
					more = append(more, y)
				}
			}
		}
		all = more
	}
	return all
}

// planesOf a face: those in which it lies.
func planesOf(l []api.Plane, x api.Signs) int { return 1<<len(l) - 1 - x.Above - x.Below }

// isBounded: is there no direction in which a region goes on without end?
func isBounded(d int, l []api.Plane, x api.Signs) bool {
	for at := range d {
		for _, far := range []int{1, -1} {
			direction := make([]int, d+1)
			direction[at] = far
			needs := []need{needOf(isMore, 1, direction...)}
			for i, p := range l {
				times := 1 - 2*(x.Below>>i&1)
				needs = append(needs, needOf(notLess, times, append(slices.Clone(p.Normal), 0)...))
			}
			if isPossible(needs) {
				return false
			}
		}
	}
	return true
}

// rows of the planes of s: their normals, and the same with At.
func rows(l []api.Plane, s int) (normals, all [][]int) {
	for _, i := range probe.Elements(s) {
		normals = append(normals, l[i].Normal)
		all = append(all, append(slices.Clone(l[i].Normal), l[i].At))
	}
	return normals, all
}

// together: how many dimensions the planes of s have together, if anything.
func together(d int, l []api.Plane, s int) (dimension int, ok bool) {
	normals, all := rows(l, s)
	rank := probe.RankOfRows(normals)
	return d - rank, rank == probe.RankOfRows(all)
}

// polynomial: what Characteristic is to be, set by set.
func polynomial(d int, l []api.Plane) []int64 {
	sum := make([]int64, d+1)
	for s := range 1 << len(l) {
		if dimension, ok := together(d, l, s); ok {
			sum[dimension] += 1 - 2*int64(len(probe.Elements(s))%2)
		}
	}
	return sum
}
