package kinds_test

import (
	"testing"

	"rota/api"
	"rota/kinds"
	"rota/probe"
)

// noughts: which sets of columns have a sum of multiples, none of them by 0,
// that is nought? All lists of multiples are gone through.
func noughts(x api.Matrix) [256]bool {
	var found [256]bool
	sum := make([]int, len(x.Rows))
	var addColumn func(j, used int)
	addColumn = func(j, used int) {
		if j == x.Cols {
			for _, v := range sum {
				if v%x.P != 0 {
					return
				}
			}
			found[used] = true
			return
		}
		addColumn(j+1, used)
		for times := 1; times < x.P; times++ {
			for i, row := range x.Rows {
				sum[i] += times * row[j]
			}
			addColumn(j+1, used|1<<j)
			for i, row := range x.Rows {
				sum[i] -= times * row[j]
			}
		}
	}
	addColumn(0, 0)
	return found
}

// linear, by the words of P12.
func linear(x api.Matrix) api.Matroid {
	found := noughts(x)
	return barred(x.Cols, func(s int) bool { return found[s] })
}

func TestMatrices(t *testing.T) {
	for _, x := range probe.Matrices() {
		if e := kinds.CheckMatrix(x); e != api.OK {
			t.Errorf("CheckMatrix(%v) = %d", x, e)
		}
		got, e := kinds.Linear(x)
		hold(t, "Linear", x, got, e, linear(x))
	}
}

func TestNoMatrices(t *testing.T) {
	for _, x := range probe.WrongMatrices() {
		if e := kinds.CheckMatrix(x); e != api.ErrArg {
			t.Errorf("CheckMatrix(%d, %d, %.7v) = %d", x.P, x.Cols, x.Rows, e)
		}
		if m, e := kinds.Linear(x); !isRefusal(m, e, api.ErrArg) {
			t.Errorf("Linear(%d, %d, %.7v) = %v, %d", x.P, x.Cols, x.Rows, m, e)
		}
	}
}

// rowsOf: so many rows of as many noughts.
func rowsOf(rows, length int) [][]int {
	l := make([][]int, rows)
	for i := range l {
		l[i] = make([]int, length)
	}
	return l
}

// TestMatrixEdges asks for each modulus, number of rows and of columns, and
// each number.
func TestMatrixEdges(t *testing.T) {
	isModulus := func(p int) bool { return p == 2 || p == 3 || p == 5 || p == 7 }
	for p := -7; p <= 12; p++ {
		for cols := -1; cols <= 10; cols++ {
			for rows := range 9 {
				want := api.ErrArg
				if isModulus(p) && cols >= 0 && cols <= 8 && rows <= 6 {
					want = api.OK
				}
				x := api.Matrix{P: p, Cols: cols, Rows: rowsOf(rows, max(cols, 0))}
				if e := kinds.CheckMatrix(x); e != want {
					t.Errorf("CheckMatrix(%v) = %d, want %d", x, e, want)
				}
			}
		}
		for v := -8; v <= 8; v++ {
			want := api.ErrArg
			if isModulus(p) && v >= 0 && v < p {
				want = api.OK
			}
			if e := kinds.CheckMatrix(probe.MatrixOf(p, 2, 0, 0, 0, v)); e != want {
				t.Errorf("%d modulo %d: %d, want %d", v, p, e, want)
			}
		}
	}
	for length := range 10 {
		x := api.Matrix{P: 2, Cols: 4, Rows: append(rowsOf(5, 4), make([]int, length))}
		want := api.ErrArg
		if length == 4 {
			want = api.OK
		}
		if e := kinds.CheckMatrix(x); e != want {
			t.Errorf("CheckMatrix(%v) = %d, want %d", x, e, want)
		}
	}
}

// TestLinearByHand holds answers that were found by hand.
func TestLinearByHand(t *testing.T) {
	for _, x := range []struct {
		x    api.Matrix
		want api.Matroid
	}{
		{api.Matrix{P: 2}, probe.Uniform(0, 0)},
		{api.Matrix{P: 7, Rows: rowsOf(6, 0)}, probe.Uniform(0, 0)},
		{api.Matrix{P: 5, Cols: 8}, probe.Uniform(0, 8)},
		{api.Matrix{P: 3, Cols: 8, Rows: rowsOf(6, 8)}, probe.Uniform(0, 8)},
		{probe.MatrixOf(7, 1, 6), probe.Uniform(1, 1)},
		{probe.MatrixOf(7, 3, 1, 0, 3), api.Matroid{N: 3, Bases: []int{1, 4}}},
		// The second column is twice the first one, modulo 3 alone.
		{probe.MatrixOf(3, 2, 1, 2, 2, 1), probe.Uniform(1, 2)},
		{probe.MatrixOf(5, 2, 1, 2, 2, 1), probe.Uniform(2, 2)},
		// All pairs of five elements: the columns are 1 and each number.
		{probe.MatrixOf(5, 5, 1, 1, 1, 1, 1, 0, 1, 2, 3, 4), probe.Uniform(2, 5)},
		{probe.MatrixOf(7, 8, 1, 1, 1, 1, 1, 1, 1, 0, 0, 1, 2, 3, 4, 5, 6, 1), probe.Uniform(2, 8)},
		// And their squares: no three are on a line.
		{probe.MatrixOf(7, 8, 1, 1, 1, 1, 1, 1, 1, 0, 0, 1, 2, 3, 4, 5, 6, 0, 0, 1, 4, 2, 2, 4, 1, 1), probe.Uniform(3, 8)},
		{probe.MatrixOf(2, 7,
			1, 0, 0, 0, 0, 0, 1,
			0, 1, 0, 0, 0, 0, 1,
			0, 0, 1, 0, 0, 0, 1,
			0, 0, 0, 1, 0, 0, 1,
			0, 0, 0, 0, 1, 0, 1,
			0, 0, 0, 0, 0, 1, 1), probe.Uniform(6, 7)},
	} {
		got, e := kinds.Linear(x.x)
		hold(t, "Linear", x.x, got, e, x.want)
	}
}

// TestGraphsAsMatrices: of a column with 1 and -1 for each edge Linear is
// Graphic, whatever the modulus.
func TestGraphsAsMatrices(t *testing.T) {
	for _, g := range probe.Graphs() {
		if g.N > api.MaxRows {
			continue
		}
		for _, p := range []int{2, 3, 5, 7} {
			x := api.Matrix{P: p, Cols: len(g.Edges), Rows: rowsOf(g.N, len(g.Edges))}
			for i, edge := range g.Edges {
				x.Rows[edge.A][i]++
				x.Rows[edge.B][i] = (x.Rows[edge.B][i] + p - 1) % p
			}
			want, _ := kinds.Graphic(g)
			got, e := kinds.Linear(x)
			hold(t, "Linear", x, got, e, want)
		}
	}
}
