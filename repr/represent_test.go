package repr_test

import (
	"slices"
	"testing"

	"rota/api"
	"rota/kinds"
	"rota/probe"
	"rota/repr"
)

// holdRepresent holds the answer to the words of P27, if it is known whether
// there is a matrix.
func holdRepresent(t *testing.T, m api.Matroid, p int, isThere bool) {
	t.Helper()
	x, e := repr.Represent(m, p)
	if !isThere {
		if e != api.ErrNone || !isZero(x) {
			t.Errorf("Represent(%v, %d) = %v, %d, want ErrNone", m, p, x, e)
		}
		return
	}
	if e != api.OK || !isOf(m, p, x) {
		t.Errorf("Represent(%v, %d) = %v, %d", m, p, x, e)
	}
}

// isOf: is m Linear of x, which has as many rows as it should?
func isOf(m api.Matroid, p int, x api.Matrix) bool {
	k, e := kinds.Linear(x)
	return e == api.OK && probe.Equal(k, m) && x.P == p && x.Cols == m.N && len(x.Rows) == rank(m)
}

// isZero: is x the matrix that stands beside an error?
func isZero(x api.Matrix) bool { return x.P == 0 && x.Cols == 0 && len(x.Rows) == 0 }

// points: the lists of r numbers modulo p of which no two are multiples of
// each other: the first number that is not 0 is 1.
func points(p, r int) [][]int {
	all := [][]int{make([]int, r)}
	for first := range r {
		l := [][]int{append(make([]int, first), 1)}
		for range r - first - 1 {
			var longer [][]int
			for _, list := range l {
				for v := range p {
					longer = append(longer, append(slices.Clone(list), v))
				}
			}
			l = longer
		}
		all = append(all, l...)
	}
	return all
}

// matroidsOf matrices modulo p with n columns: all of them. In the columns of
// one basis there is one 1 each; all others are gone through.
func matroidsOf(p, n int) map[string]int {
	all := map[string]int{}
	for basis := range 1 << n {
		r := len(probe.Elements(basis))
		columns := make([][]int, n)
		var fill func(at, row int)
		fill = func(at, row int) {
			if at == n {
				all[written(linear(ofColumns(p, r, columns)))]++
				return
			}
			if basis>>at&1 == 1 {
				columns[at] = make([]int, r)
				columns[at][row] = 1
				fill(at+1, row+1)
				return
			}
			for _, columns[at] = range points(p, r) {
				fill(at+1, row)
			}
		}
		fill(0, 0)
	}
	return all
}

func ofColumns(p, rows int, columns [][]int) api.Matrix {
	x := api.Matrix{P: p, Cols: len(columns)}
	for i := range rows {
		var row []int
		for _, c := range columns {
			row = append(row, c[i])
		}
		x.Rows = append(x.Rows, row)
	}
	return x
}

// TestUpToSix holds all matroids of up to six elements to all matrices, and
// counts: as many are Binary as there are subspaces of so many dimensions
// modulo 2; Ternary, as there are modulo 3 but for signs.
func TestUpToSix(t *testing.T) {
	counts := map[int][]int{2: {1, 2, 5, 16, 67, 374, 2825}, 3: {1, 2, 5, 16, 68, 404, 3610}}
	calls := map[int]func(api.Matroid) (bool, api.Errno){2: repr.Binary, 3: repr.Ternary}
	all := []api.Matroid{probe.Uniform(0, 0)}
	for n, many := range []int{1, 2, 5, 16, 68, 406, 3807} {
		if n > 0 {
			all = oneMore(n-1, all)
		}
		if len(all) != many {
			t.Fatalf("of %d elements there are %d, want %d", n, len(all), many)
		}
		for p, count := range counts {
			are := matroidsOf(p, n)
			if len(are) != count[n] {
				t.Errorf("modulo %d, of %d elements there are %d, want %d", p, n, len(are), count[n])
			}
			for _, m := range all {
				holdRepresent(t, m, p, are[written(m)] > 0)
				hold(t, calls[p], m, are[written(m)] > 0)
			}
		}
	}
}

// TestRepresentMatrices: what is of a matrix modulo p has one.
func TestRepresentMatrices(t *testing.T) {
	for _, x := range probe.Matrices() {
		if x.P == 2 || x.P == 3 {
			holdRepresent(t, linear(x), x.P, true)
		}
	}
	var jumps probe.Jumps
	for i := range 400 {
		x := api.Matrix{P: 2 + i%2, Cols: 7 + i/2%2}
		for range 2 + i/4%5 {
			row := make([]int, x.Cols)
			for j := range row {
				row[j] = jumps.Next(x.P)
			}
			x.Rows = append(x.Rows, row)
		}
		holdRepresent(t, linear(x), x.P, true)
	}
}

// TestRepresentGraphs: they have one of either.
func TestRepresentGraphs(t *testing.T) {
	for _, g := range probe.Graphs() {
		m, e := kinds.Graphic(g)
		if e != api.OK {
			t.Fatal(g, e)
		}
		holdRepresent(t, m, 2, true)
		holdRepresent(t, m, 3, true)
	}
}

func TestRepresentModulus(t *testing.T) {
	for _, m := range append(probe.Known(), probe.All(2)...) {
		for _, p := range append(probe.Wide(), 4, 5, 11, -2, -3, 2+1<<32, 3+1<<32) {
			if p == 2 || p == 3 {
				continue
			}
			if x, e := repr.Represent(m, p); e != api.ErrArg || !isZero(x) {
				t.Errorf("Represent(%v, %d) = %v, %d, want ErrArg", m, p, x, e)
			}
		}
	}
}

// TestRepresentRanks: above six there is no room for as many rows.
func TestRepresentRanks(t *testing.T) {
	for _, p := range []int{2, 3} {
		for n := range 9 {
			holdRepresent(t, probe.Uniform(0, n), p, true)
		}
		for k := range 7 {
			holdRepresent(t, probe.Uniform(k, k), p, true)
			holdRepresent(t, api.Matroid{N: 8, Bases: []int{1<<k - 1}}, p, true)
			holdRepresent(t, api.Matroid{N: 8, Bases: []int{255 &^ (1<<(8-k) - 1)}}, p, true)
		}
		holdRepresent(t, probe.Uniform(6, 7), p, true)
		holdRepresent(t, probe.Uniform(6, 8), p, false)
		for _, m := range []api.Matroid{
			probe.Uniform(7, 7), probe.Uniform(8, 8), probe.Uniform(7, 8),
			{N: 8, Bases: []int{127}}, {N: 8, Bases: []int{254}}, {N: 8, Bases: []int{127, 191}},
		} {
			if x, e := repr.Represent(m, p); e != api.ErrLarge || !isZero(x) {
				t.Errorf("Represent(%v, %d) = %v, %d, want ErrLarge", m, p, x, e)
			}
		}
	}
}
