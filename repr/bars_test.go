package repr_test

import (
	"testing"

	"rota/api"
	"rota/kinds"
	"rota/probe"
	"rota/repr"
)

// hold a call of P28 to what is known.
func hold(t *testing.T, call func(api.Matroid) (bool, api.Errno), m api.Matroid, want bool) {
	t.Helper()
	if got, e := call(m); e != api.OK || got != want {
		t.Errorf("%v: %v, %d, want %v", m, got, e, want)
	}
}

// holdAll of P28; a matroid is Regular just if it is both others.
func holdAll(t *testing.T, m api.Matroid, two, three bool) {
	t.Helper()
	hold(t, repr.Binary, m, two)
	hold(t, repr.Ternary, m, three)
	hold(t, repr.Regular, m, two && three)
}

// circuits of m, by the words of P7.
func circuits(m api.Matroid) []int {
	var l []int
	for s := range 1 << m.N {
		if probe.Circuit(m, s) {
			l = append(l, s)
		}
	}
	return l
}

// isEven: has each circuit an even number of elements of each circuit of the
// dual? By Tutte this is so just if there is a matrix modulo 2.
func isEven(m api.Matroid) bool {
	cuts := circuits(turned(m))
	for _, ring := range circuits(m) {
		for _, cut := range cuts {
			if len(probe.Elements(ring&cut))%2 == 1 {
				return false
			}
		}
	}
	return true
}

// TestBars: a matrix proves that there is one, and what bars that there is
// none; of each matroid just one of these is found. The dual of one whose rank
// is above six has at most the rank 1, so that nothing bars.
func TestBars(t *testing.T) {
	for _, m := range large() {
		two := isEven(m)
		three, _ := repr.Ternary(m)
		if rank(m) > api.MaxRows {
			holdAll(t, m, true, true)
			continue
		}
		hold(t, repr.Binary, m, two)
		hold(t, repr.Regular, m, two && three)
		holdRepresent(t, m, 2, two)
		holdRepresent(t, m, 3, three)
	}
}

// TestBarsUpToFive holds Regular, too, to all small matroids.
func TestBarsUpToFive(t *testing.T) {
	for n := range 6 {
		for _, m := range probe.All(n) {
			holdAll(t, m, isEven(m), !probe.Equal(m, probe.Uniform(2, 5)) && !probe.Equal(m, probe.Uniform(3, 5)))
		}
	}
}

// TestBarsOfGraphs: graphs, and their duals, are Regular.
func TestBarsOfGraphs(t *testing.T) {
	graphs := probe.Graphs()
	for _, g := range graphs[len(graphs)-210:] {
		m, _ := kinds.Graphic(g)
		holdAll(t, m, true, true)
		holdAll(t, turned(m), true, true)
	}
}

// but: all sets of k elements of n, but some.
func but(n, k int, gone ...int) api.Matroid {
	m := probe.Uniform(k, n)
	is := map[int]int{}
	for _, s := range gone {
		is[s]++
	}
	left := api.Matroid{N: n}
	for _, s := range m.Bases {
		if is[s] == 0 {
			left.Bases = append(left.Bases, s)
		}
	}
	return left
}

// cube: the eight corners of one as columns, with 1 above each, modulo p.
func cube(p int) api.Matrix {
	return probe.MatrixOf(p, 8,
		1, 1, 1, 1, 1, 1, 1, 1,
		0, 1, 0, 1, 0, 1, 0, 1,
		0, 0, 1, 1, 0, 0, 1, 1,
		0, 0, 0, 0, 1, 1, 1, 1)
}

// TestWellKnown matroids, whose answers stand in books.
func TestWellKnown(t *testing.T) {
	for _, x := range []struct {
		m          api.Matroid
		two, three bool
	}{
		{probe.Uniform(0, 0), true, true},
		{probe.Uniform(0, 8), true, true},
		{probe.Uniform(1, 8), true, true},
		{probe.Uniform(7, 8), true, true},
		{probe.Uniform(8, 8), true, true},
		{probe.Uniform(7, 7), true, true},
		{probe.Uniform(2, 3), true, true},
		{probe.Uniform(2, 4), false, true},
		{probe.Uniform(2, 5), false, false},
		{probe.Uniform(3, 5), false, false},
		{probe.Uniform(3, 6), false, false},
		{probe.Uniform(2, 8), false, false},
		{probe.Uniform(6, 8), false, false},
		// Each of what bars, beside elements that do nothing: loops ahead of
		// it, and one that is in each basis.
		{api.Matroid{N: 8, Bases: probe.Uniform(2, 4).Bases}, false, true},
		{shifted(probe.Uniform(2, 4), 4), false, true},
		{shifted(probe.Uniform(2, 5), 3), false, false},
		{shifted(probe.Uniform(3, 5), 3), false, false},
		{shifted(probe.Fano(), 1), true, false},
		{shifted(turned(probe.Fano()), 1), true, false},
		{api.Matroid{N: 8, Bases: added(probe.Fano().Bases, 128)}, true, false},
		{api.Matroid{N: 8, Bases: added(turned(probe.Fano()).Bases, 128)}, true, false},
		{api.Matroid{N: 8, Bases: added(probe.Uniform(2, 4).Bases, 240)}, false, true},
		{probe.K4(), true, true},
		{probe.Fano(), true, false},
		{turned(probe.Fano()), true, false},
		{probe.Vamos(), false, false},
		// Six points with three, two, one line of three; two lines apart.
		{but(6, 3, 0b000111, 0b011100, 0b110001), false, true},
		{but(6, 3, 0b000111, 0b011100), false, false},
		{but(6, 3, 0b000111), false, false},
		{but(6, 3, 0b000111, 0b111000), false, true},
		// The corners of a cube: modulo 2 all of affine space.
		{linear(cube(2)), true, false},
		{linear(cube(3)), false, true},
		{linear(cube(5)), false, true},
		// The plane of nine points, but one.
		{linear(probe.MatrixOf(3, 8, 1, 1, 1, 1, 1, 1, 1, 1, 0, 1, 2, 0, 1, 2, 0, 1, 0, 0, 0, 1, 1, 1, 2, 2)), false, true},
	} {
		holdAll(t, x.m, x.two, x.three)
	}
}

// shifted: m, with so many loops ahead of its elements.
func shifted(m api.Matroid, by int) api.Matroid {
	moved := api.Matroid{N: m.N + by}
	for _, b := range m.Bases {
		moved.Bases = append(moved.Bases, b<<by)
	}
	return moved
}

// TestNames: no answer hangs on the names of elements, and the dual is what
// the matroid is.
func TestNames(t *testing.T) {
	for _, m := range probe.Known()[:12] {
		two, _ := repr.Binary(m)
		three, _ := repr.Ternary(m)
		for _, order := range probe.SomeOrders(m.N)[:4] {
			named := probe.Renamed(m, order)
			holdAll(t, named, two, three)
			holdAll(t, turned(named), two, three)
			if rank(m) <= api.MaxRows {
				holdRepresent(t, named, 2, two)
				holdRepresent(t, named, 3, three)
			}
		}
	}
}
