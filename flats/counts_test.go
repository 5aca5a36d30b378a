package flats_test

import (
	"slices"
	"testing"

	"rota/api"
	"rota/axioms"
	"rota/flats"
	"rota/minors"
	"rota/probe"
)

func count(s int) int { return len(probe.Elements(s)) }

// rank of all elements of m.
func rank(m api.Matroid) int { return count(m.Bases[0]) }

func sign(n int) int64 {
	if n%2 == 0 {
		return 1
	}
	return -1
}

func hasLoops(m api.Matroid) bool {
	for x := range m.N {
		if !probe.Independent(m, 1<<x) {
			return true
		}
	}
	return false
}

// flatsOf m, rising.
func flatsOf(m api.Matroid) []int {
	var l []int
	for s := range 1 << m.N {
		if probe.Flat(m, s) {
			l = append(l, s)
		}
	}
	return l
}

// mobiusOf the flat f of l, by the words of P21.
func mobiusOf(l []int, f int, known map[int]int64) int64 {
	if n, ok := known[f]; ok {
		return n
	}
	var sum int64
	isLeast := true
	for _, g := range l {
		if g != f && g&f == g {
			sum += mobiusOf(l, g, known)
			isLeast = false
		}
	}
	if isLeast {
		sum = -1
	}
	known[f] = -sum
	return -sum
}

func TestMobius(t *testing.T) {
	for _, m := range probe.Matroids() {
		l := flatsOf(m)
		known := map[int]int64{}
		var want []int64
		for _, f := range l {
			want = append(want, mobiusOf(l, f, known))
		}
		if got, e := flats.Mobius(m); e != api.OK || !slices.Equal(got, want) {
			t.Errorf("Mobius(%v) = %v, %d, want %v", m, got, e, want)
		}
	}
}

// TestMobiusIsOfFlats: there is a number for each of axioms.Flats, and of the
// sign that its rank has.
func TestMobiusIsOfFlats(t *testing.T) {
	for _, m := range probe.Matroids() {
		l, _ := axioms.Flats(m)
		got, e := flats.Mobius(m)
		if e != api.OK || len(got) != len(l) {
			t.Errorf("Mobius(%v) = %v, %d, but the flats are %v", m, got, e, l)
			continue
		}
		for i, f := range l {
			if got[i]*sign(probe.Rank(m, f)-probe.Rank(m, 0)) <= 0 {
				t.Errorf("Mobius(%v) = %v, and of %d has the wrong sign", m, got, f)
			}
		}
	}
}

func TestCharacteristic(t *testing.T) {
	for _, m := range probe.Matroids() {
		want := make([]int64, rank(m)+1)
		for s := range 1 << m.N {
			want[rank(m)-probe.Rank(m, s)] += sign(count(s))
		}
		if got, e := flats.Characteristic(m); e != api.OK || !slices.Equal(got, want) {
			t.Errorf("Characteristic(%v) = %v, %d, want %v", m, got, e, want)
		}
	}
}

// TestCharacteristicByMobius: with loops all is 0, else each flat has its
// share.
func TestCharacteristicByMobius(t *testing.T) {
	for _, m := range probe.Matroids() {
		want := make([]int64, rank(m)+1)
		if !hasLoops(m) {
			numbers, _ := flats.Mobius(m)
			for i, f := range flatsOf(m) {
				want[rank(m)-probe.Rank(m, f)] += numbers[i]
			}
		}
		if got, e := flats.Characteristic(m); e != api.OK || !slices.Equal(got, want) {
			t.Errorf("Characteristic(%v) = %v, %d, but by Mobius %v", m, got, e, want)
		}
	}
}

// TestCharacteristicOfParts: an element that is neither a loop nor in all
// bases can be deleted and contracted: the one less the other is the whole.
func TestCharacteristicOfParts(t *testing.T) {
	for _, m := range probe.Matroids() {
		for x := range m.N {
			inAll := !slices.ContainsFunc(m.Bases, func(b int) bool { return b>>x&1 == 0 })
			if inAll || !probe.Independent(m, 1<<x) {
				continue
			}
			deleted, _ := minors.Delete(m, 1<<x)
			contracted, _ := minors.Contract(m, 1<<x)
			want, _ := flats.Characteristic(deleted)
			less, _ := flats.Characteristic(contracted)
			for i, n := range less {
				want[i] -= n
			}
			if got, e := flats.Characteristic(m); e != api.OK || !slices.Equal(got, want) {
				t.Errorf("Characteristic(%v) = %v, %d, but by element %d %v", m, got, e, x, want)
			}
		}
	}
}

func TestLevels(t *testing.T) {
	for _, m := range probe.Matroids() {
		want := make([]int, rank(m)+1)
		for _, f := range flatsOf(m) {
			want[probe.Rank(m, f)]++
		}
		if got, e := flats.Levels(m); e != api.OK || !slices.Equal(got, want) {
			t.Errorf("Levels(%v) = %v, %d, want %v", m, got, e, want)
		}
	}
}

func TestIndependent(t *testing.T) {
	for _, m := range probe.Matroids() {
		want := make([]int, rank(m)+1)
		for s := range 1 << m.N {
			if probe.Independent(m, s) {
				want[count(s)]++
			}
		}
		if got, e := flats.Independent(m); e != api.OK || !slices.Equal(got, want) {
			t.Errorf("Independent(%v) = %v, %d, want %v", m, got, e, want)
		}
	}
}

// TestCountsEdges holds answers that were found by hand.
func TestCountsEdges(t *testing.T) {
	k4 := probe.K4()
	for _, x := range []struct {
		m                   api.Matroid
		mobius, polynomial  []int64
		levels, independent []int
	}{
		{probe.Uniform(0, 0), []int64{1}, []int64{1}, []int{1}, []int{1}},
		{probe.Uniform(0, 1), []int64{1}, []int64{0}, []int{1}, []int{1}},
		{probe.Uniform(0, 8), []int64{1}, []int64{0}, []int{1}, []int{1}},
		{probe.Uniform(1, 1), []int64{1, -1}, []int64{-1, 1}, []int{1, 1}, []int{1, 1}},
		{probe.Uniform(1, 8), []int64{1, -1}, []int64{-1, 1}, []int{1, 1}, []int{1, 8}},
		{probe.Uniform(2, 2), []int64{1, -1, -1, 1}, []int64{1, -2, 1}, []int{1, 2, 1}, []int{1, 2, 1}},
		{probe.Uniform(2, 4), []int64{1, -1, -1, -1, -1, 3}, []int64{3, -4, 1}, []int{1, 4, 1}, []int{1, 4, 6}},
		// 0 and 1 are parallel, 2 is a loop: the flats are 4 and 7.
		{api.Matroid{N: 3, Bases: []int{1, 2}}, []int64{1, -1}, []int64{0, 0}, []int{1, 1}, []int{1, 2}},
		// 0 is a loop, 1 and 2 are in the basis: the flats are 1, 3, 5, 7.
		{api.Matroid{N: 3, Bases: []int{6}}, []int64{1, -1, -1, 1}, []int64{0, 0, 0}, []int{1, 2, 1}, []int{1, 2, 1}},
		// 0 and 1 are parallel, 2 is in all bases: the flats are 0, 3, 4, 7.
		{api.Matroid{N: 3, Bases: []int{5, 6}}, []int64{1, -1, -1, 1}, []int64{1, -2, 1}, []int{1, 2, 1}, []int{1, 3, 2}},
		// The flats are 0, 1, 2, 4, 8, 11, 12, 16, 18, 21, 32, 33, 38, 56, 63.
		{
			k4, []int64{1, -1, -1, -1, -1, 2, 1, -1, 1, 2, -1, 1, 2, 2, -6},
			[]int64{-6, 11, -6, 1}, []int{1, 6, 7, 1}, []int{1, 6, 15, 16},
		},
		{
			probe.Fano(), []int64{1, -1, -1, -1, 2, -1, -1, 2, -1, 2, 2, -1, 2, 2, 2, -8},
			[]int64{-8, 14, -7, 1}, []int{1, 7, 7, 1}, []int{1, 7, 21, 28},
		},
	} {
		mobius, e := flats.Mobius(x.m)
		if e != api.OK || !slices.Equal(mobius, x.mobius) {
			t.Errorf("Mobius(%v) = %v, %d, want %v", x.m, mobius, e, x.mobius)
		}
		holdCounts(t, x.m, x.polynomial, x.levels, x.independent)
	}
	holdCounts(t, probe.Vamos(), []int64{30, -51, 28, -8, 1}, []int{1, 8, 28, 41, 1}, []int{1, 8, 28, 56, 65})
	eight := []int{1, 8, 28, 56, 70, 56, 28, 8, 1}
	holdCounts(t, probe.Uniform(8, 8), []int64{1, -8, 28, -56, 70, -56, 28, -8, 1}, eight, eight)
}

func holdCounts(t *testing.T, m api.Matroid, polynomial []int64, levels, independent []int) {
	t.Helper()
	if got, e := flats.Characteristic(m); e != api.OK || !slices.Equal(got, polynomial) {
		t.Errorf("Characteristic(%v) = %v, %d, want %v", m, got, e, polynomial)
	}
	if got, e := flats.Levels(m); e != api.OK || !slices.Equal(got, levels) {
		t.Errorf("Levels(%v) = %v, %d, want %v", m, got, e, levels)
	}
	if got, e := flats.Independent(m); e != api.OK || !slices.Equal(got, independent) {
		t.Errorf("Independent(%v) = %v, %d, want %v", m, got, e, independent)
	}
}

// TestCountsByAnyName: no number hangs on the elements' names.
func TestCountsByAnyName(t *testing.T) {
	for _, m := range append(probe.Known(), probe.All(4)...) {
		for _, order := range probe.SomeOrders(m.N) {
			polynomial, _ := flats.Characteristic(m)
			levels, _ := flats.Levels(m)
			independent, _ := flats.Independent(m)
			holdCounts(t, probe.Renamed(m, order), polynomial, levels, independent)
		}
	}
}
