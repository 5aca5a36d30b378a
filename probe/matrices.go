package probe

import (
	"math"

	"rota/api"
)

// MatrixOf numbers, row by row.
func MatrixOf(p, cols int, numbers ...int) api.Matrix {
	x := api.Matrix{P: p, Cols: cols}
	for i := 0; i+cols <= len(numbers) && cols > 0; i += cols {
		x.Rows = append(x.Rows, append([]int(nil), numbers[i:i+cols]...))
	}
	return x
}

// Unit: the first so many columns have one row each.
func Unit(p, rows, cols int) api.Matrix {
	x := api.Matrix{P: p, Cols: cols}
	for i := range rows {
		row := make([]int, cols)
		row[i] = 1
		x.Rows = append(x.Rows, row)
	}
	return x
}

// SmallMatrices: all of so many rows and columns with at most some thousand
// like them.
func SmallMatrices() []api.Matrix {
	var all []api.Matrix
	for _, x := range []struct{ p, cols, rows int }{
		{2, 1, 1}, {2, 3, 1}, {2, 1, 3}, {2, 4, 2}, {2, 3, 3}, {2, 5, 2}, {2, 2, 5},
		{3, 1, 1}, {3, 3, 2}, {3, 2, 3}, {3, 6, 1},
		{5, 1, 1}, {5, 2, 2}, {5, 4, 1},
		{7, 1, 1}, {7, 2, 2}, {7, 3, 1},
	} {
		for _, l := range lists(x.p, x.cols*x.rows) {
			all = append(all, MatrixOf(x.p, x.cols, l...))
		}
	}
	return all
}

// Matrices: all that are small, and some up to the largest; those are often
// made of few numbers, so that sums of columns are nought.
func Matrices() []api.Matrix {
	all := SmallMatrices()
	var jumps Jumps
	for _, p := range []int{2, 3, 5, 7} {
		for cols := range api.MaxGround + 1 {
			for rows := range api.MaxRows + 1 {
				for _, few := range []int{2, p} {
					all = append(all, jumpMatrix(&jumps, p, cols, rows, few))
				}
			}
		}
	}
	return all
}

func jumpMatrix(jumps *Jumps, p, cols, rows, few int) api.Matrix {
	x := api.Matrix{P: p, Cols: cols}
	for range rows {
		row := make([]int, cols)
		for i := range row {
			row[i] = jumps.Next(few) * (1 + jumps.Next(p-1)) % p
		}
		x.Rows = append(x.Rows, row)
	}
	return x
}

// WrongMatrices are none.
func WrongMatrices() []api.Matrix {
	wrong := []api.Matrix{
		{},
		{P: 2, Cols: -1}, {P: 2, Cols: 9}, {P: 2, Cols: math.MinInt}, {P: 2, Cols: math.MaxInt},
		{P: 2, Cols: 9, Rows: [][]int{make([]int, 9)}},
		{P: 2, Cols: -1, Rows: [][]int{{}}},
		{P: 2, Cols: 0, Rows: [][]int{{0}}},
		{P: 2, Cols: 1, Rows: [][]int{{}}}, {P: 2, Cols: 1, Rows: [][]int{nil}},
		{P: 2, Cols: 2, Rows: [][]int{{0, 1}, {0}}}, {P: 2, Cols: 2, Rows: [][]int{{0, 1}, {0, 1, 0}}},
		{P: 2, Cols: 2, Rows: [][]int{{0, 1, 1}, {1}}},
		{P: 2, Cols: 0, Rows: make([][]int, 7)}, {P: 2, Cols: 1, Rows: make([][]int, 1<<16)},
		MatrixOf(7, 1, 0, 0, 0, 0, 0, 0, 0),
		MatrixOf(2, 2, 0, 2), MatrixOf(2, 2, 0, -1), MatrixOf(3, 2, 0, 1, 3, 0), MatrixOf(5, 1, 4, 5),
		MatrixOf(7, 1, 7), MatrixOf(7, 1, math.MinInt), MatrixOf(7, 1, math.MaxInt), MatrixOf(2, 1, 1<<32),
	}
	for _, p := range append(Wide(), 4, 5, 11, 13, -2, -3) {
		if p != 2 && p != 3 && p != 5 && p != 7 {
			wrong = append(wrong, api.Matrix{P: p}, MatrixOf(p, 1, 0), MatrixOf(p, 2, 0, 1, 1, 0))
		}
	}
	return wrong
}
