package vectors_test

import (
	"slices"
	"testing"

	"rota/api"
	"rota/axioms"
	"rota/probe"
	"rota/vectors"
)

// jumpVectors: n of d numbers from -far to far.
func jumpVectors(jumps *probe.Jumps, n, d, far int) [][]int {
	var l [][]int
	for range n {
		v := make([]int, d)
		for i := range v {
			v[i] = jumps.Next(2*far+1) - far
		}
		l = append(l, v)
	}
	return l
}

// some lists of vectors: few numbers, so that many are dependent, and many.
func some() [][][]int {
	var jumps probe.Jumps
	all := [][][]int{nil, {}, {{0}}, {{5}}, {{0, 0}, {0, 0}}, {{0, 0, 1, 0}}}
	for n := range 9 {
		for d := range 5 {
			for _, far := range []int{1, 1, 1, 2, 20, 1000} {
				all = append(all, jumpVectors(&jumps, n, d, far))
			}
		}
	}
	return all
}

func pick(l [][]int, s int) [][]int {
	var some [][]int
	for _, i := range probe.Elements(s) {
		some = append(some, l[i])
	}
	return some
}

func TestMatroid(t *testing.T) {
	for _, l := range some() {
		want := probe.WithIndependents(len(l), func(s int) bool {
			return probe.RankOfRows(pick(l, s)) == len(probe.Elements(s))
		})
		if got := vectors.Matroid(l); !probe.Equal(got, want) || axioms.Check(got) != api.OK {
			t.Errorf("Matroid(%v) = %v, want %v", l, got, want)
		}
	}
}

// sign of an order: -1, if an odd number of pairs stand the other way round.
func sign(order []int) int64 {
	s := int64(1)
	for i, a := range order {
		for _, b := range order[i:] {
			if b < a {
				s = -s
			}
		}
	}
	return s
}

// leibniz: of each order of the columns the product of a number of each row.
func leibniz(rows [][]int, columns []int) int64 {
	sum := int64(0)
	for _, order := range probe.Orders(len(columns)) {
		product := sign(order)
		for i, j := range order {
			product *= int64(rows[i][columns[j]])
		}
		sum += product
	}
	return sum
}

// TestDeterminant of any columns, as many as there are rows.
func TestDeterminant(t *testing.T) {
	for _, l := range some() {
		if len(l) == 0 || len(l) > 4 {
			continue
		}
		for c := range 1 << len(l[0]) {
			if columns := probe.Elements(c); len(columns) == len(l) {
				if got, want := vectors.Determinant(l, c), leibniz(l, columns); got != want {
					t.Errorf("Determinant(%v, %d) = %d, want %d", l, c, got, want)
				}
			}
		}
	}
	if got := vectors.Determinant(nil, 0); got != 1 {
		t.Errorf("of nothing it is %d", got)
	}
}

// TestGreatest: no determinant of four rows can be greater.
func TestGreatest(t *testing.T) {
	k := 1000
	l := [][]int{{k, k, k, k}, {k, -k, k, -k}, {k, k, -k, -k}, {k, -k, -k, k}}
	if got := vectors.Determinant(l, 15); got != 16e12 {
		t.Error(got)
	}
	l[0], l[1] = l[1], l[0]
	if got := vectors.Determinant(l, 15); got != -16e12 {
		t.Error(got)
	}
}

// ofFunctions: the signs of all functions whose numbers are from -far to far.
func ofFunctions(l [][]int, d, far int) []api.Signs {
	functions := [][]int{nil}
	for range d {
		var longer [][]int
		for _, f := range functions {
			for v := -far; v <= far; v++ {
				longer = append(longer, append(f[:len(f):len(f)], v))
			}
		}
		functions = longer
	}
	var all []api.Signs
	found := map[api.Signs]int{}
	for _, f := range functions {
		x := signsOf(l, f)
		if found[x]++; found[x] == 1 {
			all = append(all, x)
		}
	}
	return all
}

func signsOf(l [][]int, f []int) api.Signs {
	var x api.Signs
	for i, v := range l {
		sum := 0
		for j := range v {
			sum += f[j] * v[j]
		}
		if sum > 0 {
			x.Above |= 1 << i
		}
		if sum < 0 {
			x.Below |= 1 << i
		}
	}
	return x
}

func inOrder(l []api.Signs) []api.Signs {
	return slices.SortedFunc(slices.Values(l), func(a, b api.Signs) int {
		return slices.Compare([]int{a.Above, a.Below}, []int{b.Above, b.Below})
	})
}

// TestCovectors holds them to all functions of small numbers. Every covector is
// that of a sum of as many cocircuits as there are coordinates, at most, whose
// numbers are determinants of one row less: these are never too great for the
// functions that are gone through.
func TestCovectors(t *testing.T) {
	var jumps probe.Jumps
	for _, x := range []struct{ d, far, functions, most, times int }{
		{0, 0, 0, 8, 1}, {1, 1, 1, 8, 3}, {1, 1000, 1, 8, 3}, {2, 1, 2, 8, 10}, {2, 3, 6, 8, 10}, {3, 1, 6, 8, 10}, {4, 1, 16, 7, 1},
	} {
		for n := range x.most + 1 {
			if x.d == 4 && n < 5 {
				continue
			}
			for range x.times {
				l := jumpVectors(&jumps, n, x.d, x.far)
				got, want := vectors.Covectors(l), ofFunctions(l, x.d, x.functions)
				if !slices.Equal(inOrder(got), inOrder(want)) {
					t.Errorf("Covectors(%v) = %v, want %v", l, got, want)
				}
			}
		}
	}
}

// TestCovectorsByHand: of nothing, and of vectors that are all 0, the function
// is 0 alone; those that are multiples go together.
func TestCovectorsByHand(t *testing.T) {
	for _, x := range []struct {
		l    [][]int
		want []api.Signs
	}{
		{nil, []api.Signs{{}}},
		{[][]int{{0, 0}}, []api.Signs{{}}},
		{[][]int{{0, 7}}, []api.Signs{{}, {Below: 1}, {Above: 1}}},
		{[][]int{{1, 2}, {0, 0}, {-500, -1000}}, []api.Signs{{}, {Above: 1, Below: 4}, {Above: 4, Below: 1}}},
		{[][]int{{1000, 999}, {999, 998}}, []api.Signs{
			{}, {Below: 1}, {Below: 2}, {Below: 3}, {Above: 1}, {Above: 1, Below: 2}, {Above: 2}, {Above: 2, Below: 1}, {Above: 3},
		}},
	} {
		if got := inOrder(vectors.Covectors(x.l)); !slices.Equal(got, x.want) {
			t.Errorf("Covectors(%v) = %v, want %v", x.l, got, x.want)
		}
	}
}

// bothWaysOn: are signs told just on these sets, in both ways, each once?
func bothWaysOn(l []api.Signs, isOne func(s int) bool, n int) bool {
	count := 0
	for s := range 1 << n {
		if isOne(s) {
			count += 2
		}
	}
	for i, x := range l {
		opposite := api.Signs{Above: x.Below, Below: x.Above}
		if x.Above&x.Below != 0 || !isOne(x.Above|x.Below) || slices.Contains(l[:i], x) || !slices.Contains(l, opposite) {
			return false
		}
	}
	return len(l) == count
}

// isAcross: the values of a function, times the multiples of a sum that is
// nought, add up to 0: so if one of these is above 0, another one is below.
func isAcross(a, b api.Signs) bool {
	return (a.Above&b.Above|a.Below&b.Below != 0) == (a.Above&b.Below|a.Below&b.Above != 0)
}

// TestCircuits and cocircuits. Of a circuit there is one way and its opposite
// alone that is across all cocircuits: for any two of its elements one meets it
// just there.
func TestCircuits(t *testing.T) {
	for _, l := range some() {
		m := vectors.Matroid(l)
		circuits, cocircuits := vectors.Circuits(l), vectors.Cocircuits(l)
		if !bothWaysOn(circuits, func(s int) bool { return probe.Circuit(m, s) }, m.N) {
			t.Errorf("Circuits(%v) = %v", l, circuits)
		}
		if !bothWaysOn(cocircuits, func(s int) bool { return probe.Hyperplane(m, 1<<m.N-1-s) }, m.N) {
			t.Errorf("Cocircuits(%v) = %v", l, cocircuits)
		}
		for _, c := range circuits {
			for _, k := range cocircuits {
				if !isAcross(c, k) {
					t.Errorf("of %v the circuit %v is not across %v", l, c, k)
				}
			}
		}
	}
}

func TestCircuitsByHand(t *testing.T) {
	for _, x := range []struct {
		l                    [][]int
		circuits, cocircuits []api.Signs
	}{
		{nil, nil, nil},
		{[][]int{{0, 0}}, []api.Signs{{Below: 1}, {Above: 1}}, nil},
		{[][]int{{0, 7}}, nil, []api.Signs{{Below: 1}, {Above: 1}}},
		{[][]int{{1, 2}, {500, 1000}}, []api.Signs{{Above: 1, Below: 2}, {Above: 2, Below: 1}}, []api.Signs{{Below: 3}, {Above: 3}}},
		{[][]int{{1, 2}, {-500, -1000}}, []api.Signs{{Below: 3}, {Above: 3}}, []api.Signs{{Above: 1, Below: 2}, {Above: 2, Below: 1}}},
		{[][]int{{1000, 999}, {999, 998}}, nil, []api.Signs{{Below: 1}, {Below: 2}, {Above: 1}, {Above: 2}}},
		{
			[][]int{{1000, 0}, {0, -1000}, {999, -1000}}, []api.Signs{{Above: 3, Below: 4}, {Above: 4, Below: 3}},
			[]api.Signs{{Below: 5}, {Below: 6}, {Above: 1, Below: 2}, {Above: 2, Below: 1}, {Above: 5}, {Above: 6}},
		},
	} {
		if got := inOrder(vectors.Circuits(x.l)); !slices.Equal(got, x.circuits) {
			t.Errorf("Circuits(%v) = %v, want %v", x.l, got, x.circuits)
		}
		if got := inOrder(vectors.Cocircuits(x.l)); !slices.Equal(got, x.cocircuits) {
			t.Errorf("Cocircuits(%v) = %v, want %v", x.l, got, x.cocircuits)
		}
	}
}
