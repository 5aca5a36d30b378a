package field

import (
	"slices"

	"rota/api"
)

// noughts: a matrix of them. Each row is made by itself, so that none has room
// that is another's.
func noughts(p, rows, cols int) api.Matrix {
	x := api.Matrix{P: p, Cols: cols, Rows: make([][]int, rows)}
	for i := range x.Rows {
		x.Rows[i] = make([]int, cols)
	}
	return x
}

// add to a row so many times another one.
func add(p int, row, other []int, times int) {
	for i, v := range other {
		row[i] = (row[i] + times*v) % p
	}
}

// inverse: the number by which v, which is not 0, comes to 1.
func inverse(p, v int) int {
	w := 1
	for v*w%p != 1 {
		w++
	}
	return w
}

// reduced: column by column one row that is not 0 there comes behind those
// that have their place, and clears the column in all others.
func reduced(x api.Matrix) api.Matrix {
	rows := make([][]int, len(x.Rows))
	for i, row := range x.Rows {
		rows[i] = slices.Clone(row)
	}
	done := 0
	for at := range x.Cols {
		next := slices.IndexFunc(rows[done:], func(row []int) bool { return row[at] != 0 })
		if next < 0 {
			continue
		}
		rows[done], rows[done+next] = rows[done+next], rows[done]
		clearColumn(x.P, rows, done, at)
		done++
	}
	return api.Matrix{P: x.P, Cols: x.Cols, Rows: rows[:done:done]}
}

// clearColumn: row by, which is not 0 at a place, becomes 1 there, and all
// others become 0.
func clearColumn(p int, rows [][]int, by, at int) {
	times := inverse(p, rows[by][at])
	for i, v := range rows[by] {
		rows[by][i] = v * times % p
	}
	for i, row := range rows {
		if i != by {
			add(p, row, rows[by], p-row[at])
		}
	}
}

// across a reduced matrix: for each column in which no row begins the one list
// that is 1 there, is 0 in the other such columns, and comes to 0 with every
// row. All lists that come to 0 are sums of multiples of these.
func across(r api.Matrix) api.Matrix {
	begins := make([]int, len(r.Rows))
	for i, row := range r.Rows {
		begins[i] = slices.Index(row, 1)
	}
	x := api.Matrix{P: r.P, Cols: r.Cols}
	for at := range r.Cols {
		if slices.Contains(begins, at) {
			continue
		}
		list := make([]int, r.Cols)
		list[at] = 1
		for i, row := range r.Rows {
			list[begins[i]] = (r.P - row[at]) % r.P
		}
		x.Rows = append(x.Rows, list)
	}
	return x
}
