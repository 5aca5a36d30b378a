package codes_test

import (
	"slices"
	"testing"

	"rota/api"
	"rota/codes"
	"rota/probe"
)

// answer of any call of the package.
type answer struct {
	l     []int
	texts []string
	n     int
	e     api.Errno
}

// told: what is in an answer, but for its list of numbers.
func told(a answer) []int {
	l := []int{a.n, int(a.e), len(a.l)}
	for _, text := range a.texts {
		l = append(l, len(text))
		for _, c := range []byte(text) {
			l = append(l, int(c))
		}
	}
	return l
}

func isRefusal(a answer, e api.Errno) bool {
	return a.e == e && len(a.l) == 0 && len(a.texts) == 0 && a.n == 0
}

// call of what it is given.
type call[T any] struct {
	name string
	do   func(given T) answer
}

func ofNumber(name string, do func(api.Matrix) (int, api.Errno)) call[api.Matrix] {
	return call[api.Matrix]{name, func(x api.Matrix) answer {
		n, e := do(x)
		return answer{n: n, e: e}
	}}
}

func ofMatrices() []call[api.Matrix] {
	return []call[api.Matrix]{
		{"Weights", func(x api.Matrix) answer {
			l, e := codes.Weights(x)
			return answer{l: l, e: e}
		}},
		ofNumber("Distance", codes.Distance), ofNumber("Critical", codes.Critical),
	}
}

func callDual(p int, l []int) answer {
	texts, e := codes.Dual(p, l)
	return answer{texts: texts, e: e}
}

func callGreene(m api.Matroid, p int) answer {
	texts, e := codes.Greene(m, p)
	return answer{texts: texts, e: e}
}

func TestNoMatrices(t *testing.T) {
	for _, x := range probe.WrongMatrices() {
		for _, c := range ofMatrices() {
			if got := c.do(x); !isRefusal(got, api.ErrArg) {
				t.Errorf("%s(%d, %d, %.7v) = %v", c.name, x.P, x.Cols, x.Rows, got)
			}
		}
	}
}

// TestNoMatroids: what is said of a matroid is ahead of what is said of the
// modulus.
func TestNoMatroids(t *testing.T) {
	for _, x := range probe.Wrong() {
		for _, p := range append(probe.Wide(), moduli()...) {
			if got := callGreene(x.M, p); !isRefusal(got, x.Want) {
				t.Errorf("Greene(%d, %.8v; %d) = %v, want %d", x.M.N, x.M.Bases, p, got, x.Want)
			}
		}
	}
}

// TestNoPanic is P1: a panic in any of these calls ends the test.
func TestNoPanic(t *testing.T) {
	callAll := func(x api.Matrix) {
		for _, c := range ofMatrices() {
			c.do(x)
		}
	}
	for _, n := range probe.Wide() {
		for _, l := range probe.Lists() {
			callDual(n, l)
			callGreene(api.Matroid{N: n, Bases: l}, 2)
			callGreene(api.Matroid{N: 3, Bases: l}, n)
			callAll(api.Matrix{P: 7, Cols: n, Rows: [][]int{l}})
			callAll(api.Matrix{P: n, Cols: len(l), Rows: [][]int{l, l}})
		}
		for _, k := range probe.Wide() {
			callAll(api.Matrix{P: n, Cols: k})
			for _, v := range probe.Wide() {
				callAll(api.Matrix{P: n, Cols: k, Rows: [][]int{{v}, nil, {v, v}}})
				callAll(probe.MatrixOf(7, 2, n, k, v, 1))
				callDual(7, []int{n, k, v})
			}
		}
	}
}

// TestMemoryOfMatrices is P2.
func TestMemoryOfMatrices(t *testing.T) {
	all := append(matrices(), probe.WrongMatrices()...)
	for _, x := range slices.DeleteFunc(all, func(x api.Matrix) bool { return len(x.Rows) > 100 }) {
		for _, c := range ofMatrices() {
			for _, broken := range []string{
				probe.MemoryOfMatrix(x, func(x api.Matrix) []int { return c.do(x).l }),
				probe.MemoryOfMatrix(x, func(x api.Matrix) []int { return told(c.do(x)) }),
			} {
				if broken != "" {
					t.Errorf("%s(%d, %d, %v) %s", c.name, x.P, x.Cols, x.Rows, broken)
				}
			}
		}
	}
}

// holdMemory of a call that takes a list to P2. What is told of its texts is
// held, and their list.
func holdMemory(t *testing.T, name string, l []int, do func([]int) answer) {
	t.Helper()
	if broken := probe.Memory(l, func(l []int) []int { return told(do(l)) }); broken != "" {
		t.Errorf("%s of %v %s", name, l, broken)
	}
	first, second := do(l).texts, do(l).texts
	kept := slices.Clone(second)
	for i := range first[:cap(first)] {
		first[:cap(first)][i] = "overwritten"
	}
	if !slices.Equal(second, kept) || !slices.Equal(do(l).texts, kept) {
		t.Errorf("%s of %v hangs on earlier answers", name, l)
	}
}

func TestMemoryOfDual(t *testing.T) {
	all := append(lists(), make([]int, 10), []int{0, 0}, []int{1, -1}, []int{20001})
	for _, l := range all {
		for _, p := range []int{2, 7, 4} {
			holdMemory(t, "Dual", l, func(l []int) answer { return callDual(p, l) })
		}
	}
}

func TestMemoryOfGreene(t *testing.T) {
	all := slices.Concat(probe.Known(), probe.All(3), probe.All(4))
	for _, x := range probe.Wrong() {
		all = append(all, x.M)
	}
	for _, m := range all {
		for _, p := range []int{2, 7, 4} {
			holdMemory(t, "Greene", m.Bases, func(l []int) answer { return callGreene(api.Matroid{N: m.N, Bases: l}, p) })
		}
	}
}

// TestRowTwice: one row that is handed in several times is not taken for its
// copies.
func TestRowTwice(t *testing.T) {
	row := []int{1, 2, 0}
	x := api.Matrix{P: 5, Cols: 3, Rows: [][]int{row, row, row}}
	if got, e := codes.Weights(x); e != api.OK || !slices.Equal(got, []int{1, 0, 4, 0}) {
		t.Errorf("Weights(%v) = %v, %d", x, got, e)
	}
	holdDistance(t, x, 2)
	holdCritical(t, x, 0, api.ErrNone)
	if !slices.Equal(row, []int{1, 2, 0}) {
		t.Errorf("the row has become %v", row)
	}
}
