package field_test

import (
	"testing"

	"rota/api"
	"rota/field"
	"rota/probe"
)

// sign of an order: -1, if an odd number of pairs stand the other way round.
func sign(order []int) int {
	s := 1
	for i, a := range order {
		for _, b := range order[i:] {
			if b < a {
				s = -s
			}
		}
	}
	return s
}

// determinant by Leibniz: of each order the product of a number of each row.
func determinant(x api.Matrix) int {
	sum := 0
	for _, order := range probe.Orders(x.Cols) {
		product := sign(order)
		for i, j := range order {
			product *= x.Rows[i][j]
		}
		sum += product
	}
	return (sum%x.P + x.P) % x.P
}

// squares: matrices of as many rows as columns; of each number of rows some
// that have no nought, some with many.
func squares() []api.Matrix {
	var all []api.Matrix
	for _, x := range probe.Matrices() {
		if len(x.Rows) == x.Cols {
			all = append(all, x)
		}
	}
	var jumps probe.Jumps
	for i := range 400 {
		p, n := []int{2, 3, 5, 7}[i%4], 2+i/4%5
		x := api.Matrix{P: p, Cols: n}
		for range n {
			row := make([]int, n)
			for j := range row {
				row[j] = jumps.Next(p) * min(jumps.Next(2+i/20%4), 1)
			}
			x.Rows = append(x.Rows, row)
		}
		all = append(all, x)
	}
	return all
}

// TestDeterminant holds it to Leibniz' sum; and it is 0 just if the rank is
// not full.
func TestDeterminant(t *testing.T) {
	for _, x := range squares() {
		got, e := field.Determinant(x)
		if want := determinant(x); e != api.OK || got != want {
			t.Errorf("Determinant(%v) = %d, %d, want %d", x, got, e, want)
		}
		if rank, e := field.Rank(x); e != api.OK || (rank == x.Cols) != (got != 0) {
			t.Errorf("Determinant(%v) = %d, but its rank is %d", x, got, rank)
		}
	}
}

func TestDeterminantByHand(t *testing.T) {
	for _, x := range []struct {
		x    api.Matrix
		want int
	}{
		{api.Matrix{P: 2}, 1},
		{api.Matrix{P: 7, Rows: [][]int{}}, 1},
		{probe.MatrixOf(7, 1, 6), 6},
		{probe.MatrixOf(7, 1, 0), 0},
		{probe.MatrixOf(5, 2, 1, 2, 3, 4), 3},
		{probe.MatrixOf(7, 2, 0, 1, 1, 0), 6},
		{probe.MatrixOf(2, 2, 0, 1, 1, 0), 1},
		{probe.MatrixOf(3, 2, 1, 2, 2, 1), 0},
		{probe.MatrixOf(7, 3, 0, 1, 0, 0, 0, 1, 1, 0, 0), 1},
		{probe.MatrixOf(7, 3, 2, 0, 0, 0, 3, 0, 0, 0, 5), 2},
		{probe.Unit(5, 6, 6), 1},
	} {
		if got, e := field.Determinant(x.x); e != api.OK || got != x.want {
			t.Errorf("Determinant(%v) = %d, %d, want %d", x.x, got, e, x.want)
		}
	}
}

// TestDeterminantShape asks for each number of rows and columns.
func TestDeterminantShape(t *testing.T) {
	for rows := range 7 {
		for cols := range 9 {
			x := noughts(3, rows, cols)
			want := api.ErrShape
			if rows == cols {
				want = api.OK
			}
			got, e := field.Determinant(x)
			if e != want || got != 0 && rows > 0 {
				t.Errorf("Determinant(%v) = %d, %d, want %d", x, got, e, want)
			}
		}
	}
	if got, e := field.Determinant(api.Matrix{P: 2, Rows: [][]int{{}}}); e != api.ErrShape || got != 0 {
		t.Errorf("one row of no columns: %d, %d", got, e)
	}
}

func noughts(p, rows, cols int) api.Matrix {
	x := api.Matrix{P: p, Cols: cols}
	for range rows {
		x.Rows = append(x.Rows, make([]int, cols))
	}
	return x
}

// product, number by number.
func product(x, y api.Matrix) api.Matrix {
	z := noughts(x.P, len(x.Rows), y.Cols)
	for i := range z.Rows {
		for j := range z.Cols {
			sum := 0
			for k := range x.Cols {
				sum += x.Rows[i][k] * y.Rows[k][j]
			}
			z.Rows[i][j] = sum % x.P
		}
	}
	return z
}

// some matrices of each modulus, number of rows and of columns.
func some() []api.Matrix {
	all := probe.Matrices()
	return all[len(all)-4*9*7*2:]
}

// TestTimes tries each of some matrices with each: shapes that fit and shapes
// that do not.
func TestTimes(t *testing.T) {
	all := some()
	for _, x := range all {
		for _, y := range all {
			got, e := field.Times(x, y)
			if x.P != y.P || x.Cols != len(y.Rows) {
				if e != api.ErrShape || !isZero(got) {
					t.Errorf("Times(%v, %v) = %v, %d, want ErrShape", x, y, got, e)
				}
				continue
			}
			if want := product(x, y); e != api.OK || !equal(got, want) {
				t.Errorf("Times(%v, %v) = %v, %d, want %v", x, y, got, e, want)
			}
		}
	}
}

func TestTimesByHand(t *testing.T) {
	for _, x := range []struct{ x, y, want api.Matrix }{
		{api.Matrix{P: 2}, api.Matrix{P: 2}, api.Matrix{P: 2}},
		// Of nothing between them all sums are 0.
		{noughts(5, 2, 0), noughts(5, 0, 3), noughts(5, 2, 3)},
		{noughts(5, 6, 0), noughts(5, 0, 8), noughts(5, 6, 8)},
		{noughts(3, 0, 2), noughts(3, 2, 4), noughts(3, 0, 4)},
		{probe.MatrixOf(3, 2, 2, 1), probe.MatrixOf(3, 1, 2, 1), probe.MatrixOf(3, 1, 2)},
		{probe.MatrixOf(3, 1, 2, 1), probe.MatrixOf(3, 2, 2, 1), probe.MatrixOf(3, 2, 1, 2, 2, 1)},
		{probe.MatrixOf(7, 2, 1, 2, 3, 4), probe.MatrixOf(7, 2, 0, 1, 1, 0), probe.MatrixOf(7, 2, 2, 1, 4, 3)},
		{probe.MatrixOf(7, 2, 0, 1, 1, 0), probe.MatrixOf(7, 2, 1, 2, 3, 4), probe.MatrixOf(7, 2, 3, 4, 1, 2)},
		{probe.MatrixOf(7, 2, 6, 6, 6, 6), probe.MatrixOf(7, 2, 6, 6, 6, 6), probe.MatrixOf(7, 2, 2, 2, 2, 2)},
	} {
		if got, e := field.Times(x.x, x.y); e != api.OK || !equal(got, x.want) {
			t.Errorf("Times(%v, %v) = %v, %d, want %v", x.x, x.y, got, e, x.want)
		}
	}
}

// TestTimesShape: alike but for the modulus, or for one column or row.
func TestTimesShape(t *testing.T) {
	for _, x := range []struct{ x, y api.Matrix }{
		{probe.Unit(2, 2, 2), probe.Unit(3, 2, 2)}, {probe.Unit(7, 2, 2), probe.Unit(5, 2, 2)},
		{api.Matrix{P: 2}, api.Matrix{P: 3}},
		{noughts(2, 1, 2), noughts(2, 1, 2)}, {noughts(2, 2, 1), noughts(2, 2, 1)},
		{noughts(2, 1, 3), noughts(2, 2, 3)}, {noughts(2, 1, 7), noughts(2, 6, 7)}, {noughts(2, 0, 8), noughts(2, 6, 8)},
	} {
		if got, e := field.Times(x.x, x.y); e != api.ErrShape || !isZero(got) {
			t.Errorf("Times(%v, %v) = %v, %d, want ErrShape", x.x, x.y, got, e)
		}
	}
}

// TestTimesDeterminant: of a product it is the product of both.
func TestTimesDeterminant(t *testing.T) {
	all := squares()
	for _, x := range all[len(all)-400:] {
		for _, y := range all[len(all)-100:] {
			z, e := field.Times(x, y)
			if e != api.OK {
				continue
			}
			a, _ := field.Determinant(x)
			b, _ := field.Determinant(y)
			if got, e := field.Determinant(z); e != api.OK || got != a*b%x.P {
				t.Errorf("Determinant(%v times %v) = %d, %d, want %d", x, y, got, e, a*b%x.P)
			}
		}
	}
}

func TestTurned(t *testing.T) {
	for _, x := range probe.Matrices() {
		got, e := field.Turned(x)
		if x.Cols > 6 {
			if e != api.ErrLarge || !isZero(got) {
				t.Errorf("Turned(%v) = %v, %d, want ErrLarge", x, got, e)
			}
			continue
		}
		if e != api.OK || !isOne(got, x.P, x.Cols, len(x.Rows)) {
			t.Errorf("Turned(%v) = %v, %d", x, got, e)
			continue
		}
		for i, row := range x.Rows {
			for j, v := range row {
				if got.Rows[j][i] != v {
					t.Errorf("Turned(%v) = %v", x, got)
				}
			}
		}
		if again, e := field.Turned(got); e != api.OK || !equal(again, x) {
			t.Errorf("turned twice %v = %v, %d", x, again, e)
		}
	}
}

// TestTurnedEdge asks for each number of rows and columns, none included.
func TestTurnedEdge(t *testing.T) {
	for rows := range 7 {
		for cols := range 9 {
			got, e := field.Turned(noughts(5, rows, cols))
			if cols > 6 {
				if e != api.ErrLarge || !isZero(got) {
					t.Errorf("%d rows, %d columns: %v, %d, want ErrLarge", rows, cols, got, e)
				}
			} else if e != api.OK || !equal(got, noughts(5, cols, rows)) {
				t.Errorf("%d rows, %d columns: %v, %d", rows, cols, got, e)
			}
		}
	}
}
