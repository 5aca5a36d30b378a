package tutte_test

import (
	"slices"
	"testing"

	"rota/api"
	"rota/minors"
	"rota/probe"
	"rota/tutte"
)

func count(s int) int { return len(probe.Elements(s)) }

// rank of all elements of m.
func rank(m api.Matroid) int { return count(m.Bases[0]) }

func equal(a, b [][]int64) bool { return slices.EqualFunc(a, b, slices.Equal[[]int64]) }

// noughts: a polynomial up to x to the power of r and y to that of k.
func noughts(r, k int) [][]int64 {
	var rows [][]int64
	for range r + 1 {
		rows = append(rows, make([]int64, k+1))
	}
	return rows
}

// lessOne: the coefficients of x - 1 to the power of n.
func lessOne(n int) []int64 {
	l := []int64{1}
	for range n {
		longer := make([]int64, len(l)+1)
		for i, c := range l {
			longer[i+1] += c
			longer[i] -= c
		}
		l = longer
	}
	return l
}

// bySets: the polynomial of m, by the words of P23.
func bySets(m api.Matroid) [][]int64 {
	r := rank(m)
	rows := noughts(r, m.N-r)
	for s := range 1 << m.N {
		k := probe.Rank(m, s)
		for i, a := range lessOne(r - k) {
			for j, b := range lessOne(count(s) - k) {
				rows[i][j] += a * b
			}
		}
	}
	return rows
}

func holdPolynomial(t *testing.T, m api.Matroid, want [][]int64) {
	t.Helper()
	if got, e := tutte.Polynomial(m); e != api.OK || !equal(got, want) {
		t.Errorf("Polynomial(%v) = %v, %d, want %v", m, got, e, want)
	}
}

func TestPolynomial(t *testing.T) {
	for _, m := range probe.Matroids() {
		holdPolynomial(t, m, bySets(m))
	}
}

// TestPolynomialEdges holds answers that were found by hand.
func TestPolynomialEdges(t *testing.T) {
	allLoops := noughts(0, 8)
	allLoops[0][8] = 1
	noLoops := noughts(8, 0)
	noLoops[8][0] = 1
	three := noughts(3, 5)
	three[3][5] = 1
	for _, x := range []struct {
		m    api.Matroid
		want [][]int64
	}{
		{probe.Uniform(0, 0), [][]int64{{1}}},
		{probe.Uniform(0, 1), [][]int64{{0, 1}}},
		{probe.Uniform(1, 1), [][]int64{{0}, {1}}},
		{probe.Uniform(0, 8), allLoops},
		{probe.Uniform(8, 8), noLoops},
		{api.Matroid{N: 8, Bases: []int{0b10110}}, three},
		{probe.Uniform(1, 2), [][]int64{{0, 1}, {1, 0}}},
		{probe.Uniform(2, 3), [][]int64{{0, 1}, {1, 0}, {1, 0}}},
		{probe.Uniform(1, 3), [][]int64{{0, 1, 1}, {1, 0, 0}}},
		{probe.Uniform(2, 4), [][]int64{{0, 2, 1}, {2, 0, 0}, {1, 0, 0}}},
		// 0 and 1 are parallel, 2 is a loop; 0 and 1 are, 2 is in all bases.
		{api.Matroid{N: 3, Bases: []int{1, 2}}, [][]int64{{0, 0, 1}, {0, 1, 0}}},
		{api.Matroid{N: 3, Bases: []int{5, 6}}, [][]int64{{0, 0}, {0, 1}, {1, 0}}},
		{probe.K4(), [][]int64{{0, 2, 3, 1}, {2, 4, 0, 0}, {3, 0, 0, 0}, {1, 0, 0, 0}}},
		{probe.Fano(), [][]int64{{0, 3, 6, 3, 1}, {3, 7, 0, 0, 0}, {4, 0, 0, 0, 0}, {1, 0, 0, 0, 0}}},
		{probe.Vamos(), [][]int64{{0, 15, 10, 4, 1}, {15, 5, 0, 0, 0}, {10, 0, 0, 0, 0}, {4, 0, 0, 0, 0}, {1, 0, 0, 0, 0}}},
		{probe.Uniform(4, 8), [][]int64{{0, 20, 10, 4, 1}, {20, 0, 0, 0, 0}, {10, 0, 0, 0, 0}, {4, 0, 0, 0, 0}, {1, 0, 0, 0, 0}}},
	} {
		holdPolynomial(t, x.m, x.want)
	}
}

// TestPolynomialOfDual: rows and columns change places.
func TestPolynomialOfDual(t *testing.T) {
	for _, m := range probe.Matroids() {
		dual, _ := minors.Dual(m)
		rows, _ := tutte.Polynomial(dual)
		want := noughts(rank(m), m.N-rank(m))
		for i, row := range rows {
			for j, c := range row {
				want[j][i] = c
			}
		}
		holdPolynomial(t, m, want)
	}
}

// TestPolynomialOfParts: an element that is neither a loop nor in all bases is
// deleted and contracted, and both are added; a loop makes it y times, one
// that is in all bases x times what it is without.
func TestPolynomialOfParts(t *testing.T) {
	for _, m := range probe.Matroids() {
		for x := range m.N {
			deleted, _ := minors.Delete(m, 1<<x)
			contracted, _ := minors.Contract(m, 1<<x)
			without, _ := tutte.Polynomial(deleted)
			with, _ := tutte.Polynomial(contracted)
			want := noughts(rank(m), m.N-rank(m))
			switch {
			case !probe.Independent(m, 1<<x):
				addTo(want, without, 0, 1)
			case rank(deleted) < rank(m):
				addTo(want, without, 1, 0)
			default:
				addTo(want, without, 0, 0)
				addTo(want, with, 0, 0)
			}
			holdPolynomial(t, m, want)
		}
	}
}

// addTo rows others, times x to the power of up and y to that of right.
func addTo(rows, others [][]int64, up, right int) {
	for i, row := range others {
		for j, c := range row {
			rows[i+up][j+right] += c
		}
	}
}

// TestPolynomialByAnyName: no number hangs on the elements' names, though
// what is active does.
func TestPolynomialByAnyName(t *testing.T) {
	for _, m := range append(probe.Known(), probe.All(4)...) {
		want, _ := tutte.Polynomial(m)
		for _, order := range probe.SomeOrders(m.N) {
			holdPolynomial(t, probe.Renamed(m, order), want)
		}
	}
}
