package field_test

import (
	"slices"
	"testing"

	"rota/api"
	"rota/field"
	"rota/probe"
)

// answer of any call of the package.
type answer struct {
	x api.Matrix
	n int
	e api.Errno
}

// told: all that is in an answer.
func told(a answer) []int {
	return append(slices.Concat(a.x.Rows...), a.n, int(a.e), a.x.P, a.x.Cols, len(a.x.Rows))
}

func isRefusal(a answer, e api.Errno) bool { return a.e == e && isZero(a.x) && a.n == 0 }

// call of a matrix, and of another one, if it takes two.
type call struct {
	name string
	do   func(x, y api.Matrix) answer
}

func ofMatrix(name string, do func(api.Matrix) (api.Matrix, api.Errno)) call {
	return call{name, func(x, _ api.Matrix) answer {
		z, e := do(x)
		return answer{x: z, e: e}
	}}
}

func ofNumber(name string, do func(api.Matrix) (int, api.Errno)) call {
	return call{name, func(x, _ api.Matrix) answer {
		n, e := do(x)
		return answer{n: n, e: e}
	}}
}

func times() call {
	return call{"Times", func(x, y api.Matrix) answer {
		z, e := field.Times(x, y)
		return answer{x: z, e: e}
	}}
}

func calls() []call {
	return []call{
		ofMatrix("Reduced", field.Reduced), ofMatrix("Kernel", field.Kernel), ofMatrix("Turned", field.Turned),
		ofNumber("Rank", field.Rank), ofNumber("Determinant", field.Determinant), times(),
	}
}

// TestNoMatrices: what is said of a matrix is ahead of what is said of shapes.
func TestNoMatrices(t *testing.T) {
	others := append(probe.WrongMatrices(), api.Matrix{P: 2}, probe.MatrixOf(2, 2, 1, 0, 0, 1), probe.MatrixOf(7, 8, 1, 2, 3, 4, 5, 6, 0, 1))
	for _, x := range probe.WrongMatrices() {
		for _, y := range others {
			for _, c := range calls() {
				if got := c.do(x, y); !isRefusal(got, api.ErrArg) {
					t.Errorf("%s(%d, %d, %.7v) = %v", c.name, x.P, x.Cols, x.Rows, got)
				}
			}
			if got := times().do(y, x); !isRefusal(got, api.ErrArg) {
				t.Errorf("Times of %d, %d, %.7v as the second = %v", x.P, x.Cols, x.Rows, got)
			}
		}
	}
}

// TestNoPanic is P1: a panic in any of these calls ends the test.
func TestNoPanic(t *testing.T) {
	square := probe.MatrixOf(7, 2, 1, 2, 3, 4)
	callAll := func(x api.Matrix) {
		for _, c := range calls() {
			c.do(x, square)
			c.do(square, x)
			c.do(x, x)
		}
	}
	for _, n := range probe.Wide() {
		for _, k := range probe.Wide() {
			callAll(api.Matrix{P: n, Cols: k})
			for _, v := range probe.Wide() {
				callAll(api.Matrix{P: n, Cols: k, Rows: [][]int{{v}, nil, {v, v}}})
				callAll(probe.MatrixOf(7, 2, n, k, v, 1))
			}
		}
		for _, l := range probe.Lists() {
			callAll(api.Matrix{P: 7, Cols: n, Rows: [][]int{l}})
			callAll(api.Matrix{P: n, Cols: len(l), Rows: [][]int{l, l}})
		}
	}
	for _, x := range probe.Matrices() {
		callAll(x)
	}
}

// TestMemory is P2: of the matrix that comes first, of the one that comes
// second, and of one that is both.
func TestMemory(t *testing.T) {
	all := slices.DeleteFunc(probe.WrongMatrices(), func(x api.Matrix) bool { return len(x.Rows) > 100 })
	for _, x := range append(some(), all...) {
		for _, c := range calls() {
			for _, with := range []func(z api.Matrix) answer{
				func(z api.Matrix) answer {
					return c.do(z, probe.Unit(x.P, max(min(x.Cols, 6), 0), max(min(x.Cols, 6), 0)))
				},
				func(z api.Matrix) answer { return c.do(probe.Unit(x.P, len(x.Rows), len(x.Rows)), z) },
				func(z api.Matrix) answer { return c.do(z, z) },
			} {
				if broken := holdMemory(x, with); broken != "" {
					t.Errorf("%s(%v) %s", c.name, x, broken)
				}
			}
		}
	}
}

// holdMemory of a call to P2, row by row, and tell what it breaks.
func holdMemory(x api.Matrix, do func(api.Matrix) answer) string {
	if broken := probe.MemoryOfMatrix(x, func(x api.Matrix) []int { return told(do(x)) }); broken != "" {
		return broken
	}
	first, second := do(x), do(x)
	for i := range first.x.Rows {
		if broken := probe.MemoryOfMatrix(x, func(x api.Matrix) []int { return do(x).x.Rows[i] }); broken != "" {
			return broken
		}
	}
	if !probe.RowsApart(first.x.Rows, second.x.Rows) {
		return "answers rows that are not apart"
	}
	return ""
}

// TestRowTwice: one row that is handed in twice is not taken for its copy.
func TestRowTwice(t *testing.T) {
	row := []int{1, 2, 3}
	x := api.Matrix{P: 5, Cols: 3, Rows: [][]int{row, row, row}}
	for _, c := range calls() {
		got := c.do(x, x)
		want := c.do(probe.MatrixOf(5, 3, 1, 2, 3, 1, 2, 3, 1, 2, 3), probe.MatrixOf(5, 3, 1, 2, 3, 1, 2, 3, 1, 2, 3))
		if got.e != api.OK || !slices.Equal(told(got), told(want)) {
			t.Errorf("%s(%v) = %v, want %v", c.name, x, got, want)
		}
		if !slices.Equal(row, []int{1, 2, 3}) {
			t.Fatalf("%s changes what is handed in", c.name)
		}
	}
}
