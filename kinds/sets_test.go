package kinds_test

import (
	"math"
	"testing"

	"rota/api"
	"rota/kinds"
	"rota/probe"
	"rota/sets"
)

func TestUniform(t *testing.T) {
	numbers := append(probe.Wide(), 4, 5, -2)
	for _, n := range numbers {
		for _, rank := range numbers {
			got, e := kinds.Uniform(rank, n)
			if n < 0 || n > 8 || rank < 0 || rank > n {
				if !isRefusal(got, e, api.ErrArg) {
					t.Errorf("Uniform(%d, %d) = %v, %d", rank, n, got, e)
				}
				continue
			}
			hold(t, "Uniform", []int{rank, n}, got, e, probe.Uniform(rank, n))
		}
	}
}

// canGive each of the elements a place of l that is free and has it: all ways
// are tried.
func canGive(elements, l []int, taken int) bool {
	if len(elements) == 0 {
		return true
	}
	for i, s := range l {
		if taken>>i&1 == 0 && s>>elements[0]&1 == 1 && canGive(elements[1:], l, taken|1<<i) {
			return true
		}
	}
	return false
}

func holdTransversal(t *testing.T, n int, l []int) {
	t.Helper()
	got, e := kinds.Transversal(n, l)
	want := probe.WithIndependents(n, func(s int) bool { return canGive(probe.Elements(s), l, 0) })
	hold(t, "Transversal", l, got, e, want)
}

func TestTransversal(t *testing.T) {
	for _, x := range probe.SetLists() {
		holdTransversal(t, x.N, x.L)
	}
}

func TestTransversalByHand(t *testing.T) {
	for _, x := range []struct {
		n    int
		l    []int
		want api.Matroid
	}{
		{0, nil, probe.Uniform(0, 0)},
		{0, make([]int, 8), probe.Uniform(0, 0)},
		{8, nil, probe.Uniform(0, 8)},
		{8, make([]int, 8), probe.Uniform(0, 8)},
		{8, []int{1, 2, 4, 8, 16, 32, 64, 128}, probe.Uniform(8, 8)},
		{8, []int{255, 255, 255, 255, 255, 255, 255, 255}, probe.Uniform(8, 8)},
		{8, []int{255, 255, 255}, probe.Uniform(3, 8)},
		{3, []int{7, 7, 7, 7, 7, 7, 7, 7}, probe.Uniform(3, 3)},
		{3, []int{3, 3}, api.Matroid{N: 3, Bases: []int{3}}},
		{3, []int{3, 6}, probe.Uniform(2, 3)},
		// In falling order, and one that nobody is in.
		{4, []int{12, 0, 3}, api.Matroid{N: 4, Bases: []int{5, 6, 9, 10}}},
		{2, []int{1, 1, 1}, api.Matroid{N: 2, Bases: []int{1}}},
	} {
		got, e := kinds.Transversal(x.n, x.l)
		hold(t, "Transversal", x.l, got, e, x.want)
	}
}

func TestNoTransversal(t *testing.T) {
	for _, x := range probe.WrongSets() {
		if got, e := kinds.Transversal(x.N, x.L); !isRefusal(got, e, x.Want) {
			t.Errorf("Transversal(%d, %.10v) = %v, %d, want %d", x.N, x.L, got, e, x.Want)
		}
	}
}

// refusedLaminar: what P12 says of a family and its numbers, word by word.
func refusedLaminar(n int, l, most []int) api.Errno {
	if e := sets.Family(n, l); e != api.OK {
		return e
	}
	if len(most) != len(l) {
		return api.ErrShape
	}
	for i := range l {
		if most[i] < 0 {
			return api.ErrArg
		}
		for j := range i {
			both := l[i] & l[j]
			if both != 0 && both != l[i] && both != l[j] {
				return api.ErrShape
			}
		}
	}
	return api.OK
}

func holdLaminar(t *testing.T, n int, l, most []int) {
	t.Helper()
	got, e := kinds.Laminar(n, l, most)
	if want := refusedLaminar(n, l, most); want != api.OK {
		if !isRefusal(got, e, want) {
			t.Errorf("Laminar(%d, %v, %v) = %v, %d, want %d", n, l, most, got, e, want)
		}
		return
	}
	want := probe.WithIndependents(n, func(s int) bool {
		for i, o := range l {
			if len(probe.Elements(s&o)) > most[i] {
				return false
			}
		}
		return true
	})
	hold(t, "Laminar", [][]int{l, most}, got, e, want)
}

// families: all of n elements.
func families(n int) [][]int {
	var all [][]int
	for picked := range 1 << (1 << n) {
		all = append(all, probe.Elements(picked))
	}
	return all
}

func TestLaminar(t *testing.T) {
	for n := range 3 {
		for _, l := range families(n) {
			for picked := range 1 << (2 * len(l)) {
				most := make([]int, len(l))
				for i := range most {
					most[i] = picked>>(2*i)&3 - 1
				}
				holdLaminar(t, n, l, most)
			}
		}
	}
	var jumps probe.Jumps
	for _, l := range families(3) {
		for range 40 {
			most := make([]int, len(l))
			for i := range most {
				most[i] = max(jumps.Next(12)-2, -1) % 4
			}
			holdLaminar(t, 3, l, most)
			holdLaminar(t, 8, l, most)
		}
	}
}

// jumpNest: sets of which any two are apart, or one within the other.
func jumpNest(jumps *probe.Jumps, s int) []int {
	if s == 0 || jumps.Next(5) == 0 {
		return nil
	}
	low := s & jumps.Next(256)
	return append(append(jumpNest(jumps, low), jumpNest(jumps, s&^low)...), s)
}

func TestLaminarNests(t *testing.T) {
	var jumps probe.Jumps
	for range 500 {
		marked := make(map[int]int)
		for _, s := range jumpNest(&jumps, 255) {
			marked[s]++
		}
		var l, most []int
		for s := range 256 {
			if marked[s] > 0 {
				l = append(l, s)
				most = append(most, jumps.Next(len(probe.Elements(s))+2))
			}
		}
		holdLaminar(t, 8, l, most)
	}
}

func TestLaminarByHand(t *testing.T) {
	for _, x := range []struct {
		n       int
		l, most []int
		want    api.Matroid
	}{
		{0, nil, nil, probe.Uniform(0, 0)},
		{0, []int{0}, []int{0}, probe.Uniform(0, 0)},
		{8, nil, nil, probe.Uniform(8, 8)},
		{8, []int{0}, []int{0}, probe.Uniform(8, 8)},
		{8, []int{255}, []int{0}, probe.Uniform(0, 8)},
		{8, []int{255}, []int{3}, probe.Uniform(3, 8)},
		{8, []int{255}, []int{9}, probe.Uniform(8, 8)},
		{8, []int{255}, []int{math.MaxInt}, probe.Uniform(8, 8)},
		{3, []int{3, 7}, []int{1, 2}, api.Matroid{N: 3, Bases: []int{5, 6}}},
		{3, []int{3, 7}, []int{2, 1}, probe.Uniform(1, 3)},
		{4, []int{3, 12}, []int{1, 1}, api.Matroid{N: 4, Bases: []int{5, 6, 9, 10}}},
		{3, []int{2}, []int{0}, api.Matroid{N: 3, Bases: []int{5}}},
		{4, []int{1, 3, 7, 15}, []int{1, 1, 2, 2}, api.Matroid{N: 4, Bases: []int{5, 6, 9, 10, 12}}},
	} {
		got, e := kinds.Laminar(x.n, x.l, x.most)
		hold(t, "Laminar", [][]int{x.l, x.most}, got, e, x.want)
	}
}

// TestNoLaminar: of several errors that which is told first.
func TestNoLaminar(t *testing.T) {
	for _, x := range []struct {
		n       int
		l, most []int
		want    api.Errno
	}{
		{-1, nil, nil, api.ErrArg},
		{9, nil, nil, api.ErrArg},
		{math.MaxInt, []int{1}, []int{1}, api.ErrArg},
		{2, []int{4}, []int{1}, api.ErrArg},
		{2, []int{-1}, []int{1}, api.ErrArg},
		{2, []int{2, 1}, []int{1, 1}, api.ErrArg},
		{2, []int{1, 1}, []int{1, 1}, api.ErrArg},
		// No family, and too few numbers.
		{2, []int{2, 1}, []int{1}, api.ErrArg},
		{2, []int{1}, nil, api.ErrShape},
		{2, nil, []int{1}, api.ErrShape},
		{2, []int{1, 2}, []int{1}, api.ErrShape},
		{2, []int{1, 2}, []int{1, 1, 1}, api.ErrShape},
		// Too few, and one below 0.
		{2, []int{1, 2}, []int{-1}, api.ErrShape},
		{2, []int{1}, []int{-1}, api.ErrArg},
		{2, []int{0}, []int{math.MinInt}, api.ErrArg},
		{3, []int{3, 6}, []int{1, 1}, api.ErrShape},
		{3, []int{1, 3, 6}, []int{1, 1, 1}, api.ErrShape},
		{8, []int{129, 130, 255}, []int{1, 1, 1}, api.ErrShape},
		// Set by set: the one that crosses is ahead of that below 0, is the
		// same, is behind it.
		{3, []int{3, 6, 7}, []int{1, 1, -1}, api.ErrShape},
		{3, []int{3, 6, 7}, []int{1, -1, 1}, api.ErrArg},
		{3, []int{3, 6, 7}, []int{-1, 1, 1}, api.ErrArg},
		// The third crosses the second, not the first.
		{4, []int{1, 6, 12}, []int{1, 1, 1}, api.ErrShape},
		{4, []int{1, 6, 12}, []int{1, 1, -1}, api.ErrArg},
	} {
		if got, e := kinds.Laminar(x.n, x.l, x.most); !isRefusal(got, e, x.want) {
			t.Errorf("Laminar(%d, %v, %v) = %v, %d, want %d", x.n, x.l, x.most, got, e, x.want)
		}
	}
}
