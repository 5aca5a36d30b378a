package field_test

import (
	"slices"
	"testing"

	"rota/api"
	"rota/field"
	"rota/kinds"
	"rota/probe"
)

// isReduced, by the words of P25.
func isReduced(x api.Matrix) bool {
	last := -1
	for i, row := range x.Rows {
		first := slices.IndexFunc(row, func(v int) bool { return v != 0 })
		if first <= last || row[first] != 1 {
			return false
		}
		for k, other := range x.Rows {
			if k != i && other[first] != 0 {
				return false
			}
		}
		last = first
	}
	return true
}

// words: which lists are sums of multiples of the rows? A list is told by the
// number whose digits it is.
func words(x api.Matrix) []bool {
	is := make([]bool, power(x.P, x.Cols))
	sum := make([]int, x.Cols)
	var addRow func(i int)
	addRow = func(i int) {
		if i == len(x.Rows) {
			is[digits(x.P, sum)] = true
			return
		}
		for range x.P {
			for j, v := range x.Rows[i] {
				sum[j] = (sum[j] + v) % x.P
			}
			addRow(i + 1)
		}
	}
	addRow(0)
	return is
}

// crossers: which lists come to 0 with each row? All lists are gone through.
func crossers(x api.Matrix) []bool {
	is := make([]bool, power(x.P, x.Cols))
	list, sums := make([]int, x.Cols), make([]int, len(x.Rows))
	var addNumber func(j int)
	addNumber = func(j int) {
		if j == x.Cols {
			is[digits(x.P, list)] = !slices.ContainsFunc(sums, func(v int) bool { return v%x.P != 0 })
			return
		}
		for v := range x.P {
			list[j] = v
			for i, row := range x.Rows {
				sums[i] += v * row[j]
			}
			addNumber(j + 1)
			for i, row := range x.Rows {
				sums[i] -= v * row[j]
			}
		}
	}
	addNumber(0)
	return is
}

func power(p, n int) int {
	v := 1
	for range n {
		v *= p
	}
	return v
}

func digits(p int, l []int) int {
	v := 0
	for _, d := range l {
		v = v*p + d
	}
	return v
}

func count(is []bool) int {
	n := 0
	for _, one := range is {
		if one {
			n++
		}
	}
	return n
}

// isOne: is x a matrix modulo p of so many rows and columns?
func isOne(x api.Matrix, p, rows, cols int) bool {
	return kinds.CheckMatrix(x) == api.OK && x.P == p && len(x.Rows) == rows && x.Cols == cols
}

func equal(x, y api.Matrix) bool {
	return isOne(x, y.P, len(y.Rows), y.Cols) && slices.EqualFunc(x.Rows, y.Rows, slices.Equal[[]int])
}

// TestReduced holds Reduced and Rank to the words of P25: no two reduced
// matrices have the same words.
func TestReduced(t *testing.T) {
	for _, x := range probe.Matrices() {
		got, e := field.Reduced(x)
		if e != api.OK || !isOne(got, x.P, len(got.Rows), x.Cols) || !isReduced(got) {
			t.Errorf("Reduced(%v) = %v, %d", x, got, e)
			continue
		}
		want := words(x)
		if !slices.Equal(words(got), want) {
			t.Errorf("Reduced(%v) = %v has other words", x, got)
		}
		rank, e := field.Rank(x)
		if e != api.OK || rank != len(got.Rows) || power(x.P, rank) != count(want) {
			t.Errorf("Rank(%v) = %d, %d, want %d", x, rank, e, len(got.Rows))
		}
	}
}

func TestKernel(t *testing.T) {
	for _, x := range probe.Matrices() {
		want := crossers(x)
		got, e := field.Kernel(x)
		if count(want) > power(x.P, 6) {
			if e != api.ErrLarge || !isZero(got) {
				t.Errorf("Kernel(%v) = %v, %d, want ErrLarge", x, got, e)
			}
			continue
		}
		if e != api.OK || !isOne(got, x.P, len(got.Rows), x.Cols) || !isReduced(got) {
			t.Errorf("Kernel(%v) = %v, %d", x, got, e)
			continue
		}
		if !slices.Equal(words(got), want) {
			t.Errorf("Kernel(%v) = %v has other words", x, got)
		}
	}
}

// isZero: is x the matrix that stands beside an error?
func isZero(x api.Matrix) bool { return x.P == 0 && x.Cols == 0 && len(x.Rows) == 0 }

// TestKernelTwice: the kernel's kernel has the words of the matrix itself.
func TestKernelTwice(t *testing.T) {
	for _, x := range probe.Matrices() {
		kernel, e := field.Kernel(x)
		if e != api.OK {
			continue
		}
		again, e := field.Kernel(kernel)
		want, _ := field.Reduced(x)
		if e != api.OK || !equal(again, want) {
			t.Errorf("twice the Kernel of %v = %v, %d, want %v", x, again, e, want)
		}
	}
}

// TestReducedByHand holds answers that were found by hand.
func TestReducedByHand(t *testing.T) {
	none := func(p, cols int) api.Matrix { return api.Matrix{P: p, Cols: cols} }
	for _, x := range []struct{ x, reduced, kernel api.Matrix }{
		{none(2, 0), none(2, 0), none(2, 0)},
		{api.Matrix{P: 7, Rows: make([][]int, 6)}, none(7, 0), none(7, 0)},
		{probe.MatrixOf(2, 2, 1, 1), probe.MatrixOf(2, 2, 1, 1), probe.MatrixOf(2, 2, 1, 1)},
		{probe.MatrixOf(5, 2, 2, 4, 1, 3), probe.MatrixOf(5, 2, 1, 0, 0, 1), none(5, 2)},
		{probe.MatrixOf(3, 2, 1, 2, 2, 1), probe.MatrixOf(3, 2, 1, 2), probe.MatrixOf(3, 2, 1, 1)},
		{probe.MatrixOf(7, 1, 3), probe.MatrixOf(7, 1, 1), none(7, 1)},
		{probe.MatrixOf(7, 1, 0, 0), none(7, 1), probe.MatrixOf(7, 1, 1)},
		{none(5, 3), none(5, 3), probe.MatrixOf(5, 3, 1, 0, 0, 0, 1, 0, 0, 0, 1)},
		// A column of noughts ahead, and one between.
		{probe.MatrixOf(7, 4, 0, 2, 0, 4, 0, 3, 0, 1), probe.MatrixOf(7, 4, 0, 1, 0, 0, 0, 0, 0, 1),
			probe.MatrixOf(7, 4, 1, 0, 0, 0, 0, 0, 1, 0)},
		{probe.MatrixOf(5, 3, 0, 0, 3, 0, 2, 1), probe.MatrixOf(5, 3, 0, 1, 0, 0, 0, 1), probe.MatrixOf(5, 3, 1, 0, 0)},
		{probe.MatrixOf(5, 3, 2, 1, 4), probe.MatrixOf(5, 3, 1, 3, 2), probe.MatrixOf(5, 3, 1, 0, 2, 0, 1, 1)},
		{probe.MatrixOf(2, 3, 1, 1, 0, 0, 1, 1, 1, 0, 1), probe.MatrixOf(2, 3, 1, 0, 1, 0, 1, 1), probe.MatrixOf(2, 3, 1, 1, 1)},
	} {
		if got, e := field.Reduced(x.x); e != api.OK || !equal(got, x.reduced) {
			t.Errorf("Reduced(%v) = %v, %d, want %v", x.x, got, e, x.reduced)
		}
		if got, e := field.Rank(x.x); e != api.OK || got != len(x.reduced.Rows) {
			t.Errorf("Rank(%v) = %d, %d, want %d", x.x, got, e, len(x.reduced.Rows))
		}
		if got, e := field.Kernel(x.x); e != api.OK || !equal(got, x.kernel) {
			t.Errorf("Kernel(%v) = %v, %d, want %v", x.x, got, e, x.kernel)
		}
	}
}

// TestKernelEdge: six rows are told, seven are not.
func TestKernelEdge(t *testing.T) {
	for _, p := range []int{2, 3, 5, 7} {
		for cols := range 9 {
			for rank := range min(cols, 6) + 1 {
				x := probe.Unit(p, rank, cols)
				got, e := field.Kernel(x)
				if cols-rank > 6 {
					if e != api.ErrLarge || !isZero(got) {
						t.Errorf("Kernel(%v) = %v, %d, want ErrLarge", x, got, e)
					}
				} else if e != api.OK || !isOne(got, p, cols-rank, cols) {
					t.Errorf("Kernel(%v) = %v, %d", x, got, e)
				}
			}
		}
	}
	// Many rows of the same words do not help.
	same := probe.MatrixOf(3, 8, slices.Repeat([]int{1, 2, 0, 0, 0, 0, 0, 0}, 6)...)
	if got, e := field.Kernel(same); e != api.ErrLarge || !isZero(got) {
		t.Errorf("Kernel(%v) = %v, %d, want ErrLarge", same, got, e)
	}
}
