package orient_test

import (
	"slices"
	"strconv"
	"testing"

	"rota/api"
	"rota/orient"
	"rota/probe"
	"rota/tutte"
)

// hold all calls but Turn to the words of P32 to P34.
func hold(t *testing.T, x given) {
	t.Helper()
	if e := orient.Check(x.d, x.l); e != api.OK {
		t.Fatalf("Check(%v) = %d", x, e)
	}
	if got, e := orient.Matroid(x.d, x.l); e != api.OK || !probe.Equal(got, matroid(x.l)) {
		t.Errorf("Matroid(%v) = %v, %d, want %v", x, got, e, matroid(x.l))
	}
	rings := circuits(x)
	holdSigns(t, "Circuits", orient.Circuits, x, rings)
	holdSigns(t, "Cocircuits", orient.Cocircuits, x, cocircuits(x))
	holdSigns(t, "Topes", orient.Topes, x, topes(x))
	holdAcyclic(t, x, !slices.ContainsFunc(rings, func(ring api.Signs) bool { return ring.Below == 0 }))
}

func holdSigns(t *testing.T, name string, do func(d int, l [][]int) ([]api.Signs, api.Errno), x given, want []api.Signs) {
	t.Helper()
	if got, e := do(x.d, x.l); e != api.OK || !slices.Equal(got, want) {
		t.Errorf("%s(%v) = %v, %d, want %v", name, x, got, e, want)
	}
}

// holdAcyclic: by Farkas, a function is above 0 at all elements just then.
func holdAcyclic(t *testing.T, x given, want bool) {
	t.Helper()
	if got, e := orient.Acyclic(x.d, x.l); e != api.OK || got != want {
		t.Errorf("Acyclic(%v) = %t, %d, want %t", x, got, e, want)
	}
	if isFunction(x.l, api.Signs{Above: 1<<len(x.l) - 1}) != want {
		t.Errorf("a function of %v says otherwise than %t", x, want)
	}
}

func TestKnown(t *testing.T) {
	for _, x := range slices.Concat(known(), far()) {
		hold(t, x)
	}
}

// TestPairs of all small vectors.
func TestPairs(t *testing.T) {
	for _, x := range slices.Concat(pairs(1, 3), pairs(2, 2), pairs(3, 1), pairs(4, 1)) {
		hold(t, x)
	}
}

// TestMany lists of up to seven vectors, with few numbers and with many.
func TestMany(t *testing.T) {
	for d := 1; d <= 4; d++ {
		for _, x := range slices.Concat(jumpVectors(d, 1, 7, 80), jumpVectors(d, 2, 7, 40), jumpVectors(d, 20, 7, 40)) {
			hold(t, x)
		}
	}
}

// TestNearly: what lies beside a sum of others, however little, is none.
func TestNearly(t *testing.T) {
	for d := 1; d <= 4; d++ {
		for _, x := range nearly(d, 40) {
			hold(t, x)
		}
	}
}

// inOrder, each once: as P32 tells signs.
func inOrder(l []api.Signs) []api.Signs {
	slices.SortFunc(l, func(a, b api.Signs) int {
		return slices.Compare([]int{a.Above | a.Below, a.Above}, []int{b.Above | b.Below, b.Above})
	})
	return slices.Compact(l)
}

// signsOfNumbers: those that are above 0, and those below.
func signsOfNumbers(l []int) api.Signs {
	var x api.Signs
	for i, v := range l {
		if v > 0 {
			x.Above |= 1 << i
		}
		if v < 0 {
			x.Below |= 1 << i
		}
	}
	return x
}

// sum of multiples of vectors.
func sum(d int, l [][]int, multiples []int) []int {
	total := make([]int, d)
	for i, v := range l {
		for j := range v {
			total[j] += multiples[i] * v[j]
		}
	}
	return total
}

// values of a function at each vector.
func values(l [][]int, function []int) []int {
	var all []int
	for _, v := range l {
		value := 0
		for j := range v {
			value += function[j] * v[j]
		}
		all = append(all, value)
	}
	return all
}

// TestSums goes through all multiples, and all functions, of numbers that are
// not far off. Those of a circuit, or of a hyperplane, are determinants or less;
// and a function of a tope is a sum of as many of the latter as there are
// coordinates.
func TestSums(t *testing.T) {
	for _, k := range []struct{ d, far, most, multiples, functions, times int }{
		{1, 3, 5, 3, 1, 20}, {2, 1, 5, 2, 2, 30}, {2, 2, 4, 8, 4, 10}, {3, 1, 5, 4, 6, 10},
	} {
		for _, x := range jumpVectors(k.d, k.far, k.most, k.times) {
			m := matroid(x.l)
			var rings []api.Signs
			for _, multiples := range small(len(x.l), k.multiples) {
				signs := signsOfNumbers(multiples)
				if signsOfNumbers(sum(x.d, x.l, multiples)) == (api.Signs{}) && probe.Circuit(m, signs.Above|signs.Below) {
					rings = append(rings, signs)
				}
			}
			holdSigns(t, "Circuits", orient.Circuits, x, inOrder(rings))
			var cuts, full []api.Signs
			for _, function := range small(k.d, k.functions) {
				signs := signsOfNumbers(values(x.l, function))
				zeros := 1<<len(x.l) - 1 - signs.Above - signs.Below
				if probe.Hyperplane(m, zeros) {
					cuts = append(cuts, signs)
				}
				if probe.Rank(m, zeros) == 0 {
					full = append(full, signs)
				}
			}
			holdSigns(t, "Cocircuits", orient.Cocircuits, x, inOrder(cuts))
			holdSigns(t, "Topes", orient.Topes, x, inOrder(full))
		}
	}
}

func TestByHand(t *testing.T) {
	for _, x := range []struct {
		given
		circuits, cocircuits, topes []api.Signs
		acyclic                     bool
	}{
		{of(3), nil, nil, []api.Signs{{}}, true},
		{of(1, 0), []api.Signs{{Below: 1}, {Above: 1}}, nil, []api.Signs{{}}, false},
		{of(2, 0, 0, 0, 0), []api.Signs{{Below: 1}, {Above: 1}, {Below: 2}, {Above: 2}}, nil, []api.Signs{{}}, false},
		{of(1, -7), nil, []api.Signs{{Below: 1}, {Above: 1}}, []api.Signs{{Below: 1}, {Above: 1}}, true},
		// What is twice the other, with its sign turned, goes round with it.
		{of(2, 1, 2, -2, -4), []api.Signs{{Below: 3}, {Above: 3}}, []api.Signs{{Above: 1, Below: 2}, {Above: 2, Below: 1}}, []api.Signs{{Above: 1, Below: 2}, {Above: 2, Below: 1}}, false},
		// A nought between two that are independent.
		{
			of(2, 1, 0, 0, 0, 0, 1), []api.Signs{{Below: 2}, {Above: 2}},
			[]api.Signs{{Below: 1}, {Above: 1}, {Below: 4}, {Above: 4}},
			[]api.Signs{{Below: 5}, {Above: 1, Below: 4}, {Above: 4, Below: 1}, {Above: 5}}, false,
		},
		{
			ring(), []api.Signs{{Below: 7}, {Above: 7}},
			[]api.Signs{{Above: 1, Below: 2}, {Above: 2, Below: 1}, {Above: 1, Below: 4}, {Above: 4, Below: 1}, {Above: 2, Below: 4}, {Above: 4, Below: 2}},
			[]api.Signs{{Above: 1, Below: 6}, {Above: 2, Below: 5}, {Above: 3, Below: 4}, {Above: 4, Below: 3}, {Above: 5, Below: 2}, {Above: 6, Below: 1}}, false,
		},
		{
			of(2, 1, 0, 0, 1, 1, 1), []api.Signs{{Above: 3, Below: 4}, {Above: 4, Below: 3}},
			[]api.Signs{{Above: 1, Below: 2}, {Above: 2, Below: 1}, {Below: 5}, {Above: 5}, {Below: 6}, {Above: 6}},
			[]api.Signs{{Below: 7}, {Above: 1, Below: 6}, {Above: 2, Below: 5}, {Above: 5, Below: 2}, {Above: 6, Below: 1}, {Above: 7}}, true,
		},
	} {
		holdSigns(t, "Circuits", orient.Circuits, x.given, x.circuits)
		holdSigns(t, "Cocircuits", orient.Cocircuits, x.given, x.cocircuits)
		holdSigns(t, "Topes", orient.Topes, x.given, x.topes)
		holdAcyclic(t, x.given, x.acyclic)
	}
}

// TestCurve: on it the signs of a circuit go by turns (Radon), so on four
// coordinates three are above and two between these below.
func TestCurve(t *testing.T) {
	holdSigns(t, "Circuits", orient.Circuits, curve(4, -2, -1, 0, 1, 2), []api.Signs{{Above: 10, Below: 21}, {Above: 21, Below: 10}})
	rings, e := orient.Circuits(3, curve(3, -3, -2, -1, 0, 1, 2, 3).l)
	if e != api.OK || len(rings) != 2*35 {
		t.Fatalf("%v, %d", rings, e)
	}
	for _, x := range rings {
		elements := probe.Elements(x.Above | x.Below)
		for i := 1; i < len(elements); i++ {
			if signOf(x, elements[i]) == signOf(x, elements[i-1]) {
				t.Errorf("%v goes not by turns", x)
			}
		}
	}
}

// TestHowMany signs there are, where books say so: the orders of four numbers,
// what planes in general position cut, and the corners of a cube.
func TestHowMany(t *testing.T) {
	for _, x := range []struct {
		given
		circuits, cocircuits, topes int
	}{
		{orders(), 14, 14, 24},
		{curve(3, -3, -2, -1, 0, 1, 2, 3), 70, 42, 44},
		{curve(4, -2, -1, 0, 1, 2), 2, 20, 30},
		{of(4, 1, 0, 0, 0, 0, 1, 0, 0, 0, 0, 1, 0, 0, 0, 0, 1), 0, 8, 16},
	} {
		a, e := orient.Circuits(x.d, x.l)
		b, f := orient.Cocircuits(x.d, x.l)
		c, g := orient.Topes(x.d, x.l)
		if e != api.OK || f != api.OK || g != api.OK || len(a) != x.circuits || len(b) != x.cocircuits || len(c) != x.topes {
			t.Errorf("%v: %d circuits, %d cocircuits, %d topes", x, len(a), len(b), len(c))
		}
	}
}

// TestMatroidByHand: P32.
func TestMatroidByHand(t *testing.T) {
	for _, x := range []struct {
		given
		bases []int
	}{
		{of(1), []int{0}},
		{of(4, 0, 0, 0, 0), []int{0}},
		{of(1, 0, -20, 20, 0, 1), []int{2, 4, 16}},
		{of(2, 1, 0, 2, 0, 0, 1), []int{5, 6}},
		{of(3, 1, 2, 3, 2, 4, 7, 3, 6, 10), []int{3, 5, 6}},
		// The determinant is 1, and of its multiples modulo 2 it would be 0.
		{of(2, 20, 19, 19, 18), []int{3}},
		{of(2, 1, 1, 1, -1), []int{3}},
		{of(4, 2, 0, 0, 0, 0, 2, 0, 0, 0, 0, 2, 0, 0, 0, 0, 2, 0, 0, 0, 1), []int{15, 23}},
	} {
		if m, e := orient.Matroid(x.d, x.l); e != api.OK || !probe.Equal(m, api.Matroid{N: len(x.l), Bases: x.bases}) {
			t.Errorf("Matroid(%v) = %v, %d, want %v", x.given, m, e, x.bases)
		}
	}
}

// turned: what Turn is to be.
func turned(x given, s int) [][]int {
	var all [][]int
	for i, v := range x.l {
		all = append(all, times(1-2*(s>>i&1), v))
	}
	return all
}

// crossed: signs, those of s turned.
func crossed(l []api.Signs, s int) []api.Signs {
	var all []api.Signs
	for _, x := range l {
		all = append(all, api.Signs{Above: x.Above&^s | x.Below&s, Below: x.Below&^s | x.Above&s})
	}
	return inOrder(all)
}

// some lists of vectors, of each kind.
func some() []given {
	all := slices.Concat(known(), far())
	for d := 1; d <= 4; d++ {
		all = append(all, slices.Concat(jumpVectors(d, 1, 6, 8), jumpVectors(d, 20, 7, 4), nearly(d, 4))...)
	}
	return all
}

// TestTurn by every set: the signs turn with the vectors, and what is turned
// twice is as it was.
func TestTurn(t *testing.T) {
	for _, x := range some() {
		rings, _ := orient.Circuits(x.d, x.l)
		cuts, _ := orient.Cocircuits(x.d, x.l)
		full, _ := orient.Topes(x.d, x.l)
		for s := range 1 << len(x.l) {
			got, e := orient.Turn(x.d, x.l, s)
			if e != api.OK || !slices.EqualFunc(got, turned(x, s), slices.Equal[[]int]) {
				t.Fatalf("Turn(%v, %d) = %v, %d", x, s, got, e)
			}
			holdSigns(t, "Circuits", orient.Circuits, given{x.d, got}, crossed(rings, s))
			holdSigns(t, "Cocircuits", orient.Cocircuits, given{x.d, got}, crossed(cuts, s))
			holdSigns(t, "Topes", orient.Topes, given{x.d, got}, crossed(full, s))
			back, e := orient.Turn(x.d, got, s)
			if e != api.OK || !slices.EqualFunc(back, x.l, slices.Equal[[]int]) {
				t.Errorf("Turn(%v, %d) and back = %v, %d", x, s, back, e)
			}
		}
	}
}

// TestLasVergnas: as many Turns are acyclic as Tutte's polynomial says; and that
// one is, by Farkas, that has a tope with all elements above.
func TestLasVergnas(t *testing.T) {
	for _, x := range some() {
		m, _ := orient.Matroid(x.d, x.l)
		want, _ := tutte.At(m, 2, 0)
		count := 0
		for s := range 1 << len(x.l) {
			l, _ := orient.Turn(x.d, x.l, s)
			ok, e := orient.Acyclic(x.d, l)
			full, f := orient.Topes(x.d, l)
			if e != api.OK || f != api.OK || ok != slices.Contains(full, api.Signs{Above: 1<<len(l) - 1}) {
				t.Errorf("Acyclic(%v) = %t, %d, but the topes are %v", l, ok, e, full)
			}
			if ok {
				count++
			}
		}
		if strconv.Itoa(count) != want {
			t.Errorf("of %v %d are acyclic, want %s", x, count, want)
		}
	}
}
