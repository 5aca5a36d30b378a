package hall_test

import (
	"testing"

	"rota/api"
	"rota/probe"
)

// pair of a matroid and a list of its sets.
type pair struct {
	m api.Matroid
	l []int
}

// pairs: small matroids with all lists, and each matroid with some.
func pairs() []pair {
	byN := make([][][]int, api.MaxGround+1)
	for _, x := range probe.SetLists() {
		byN[x.N] = append(byN[x.N], x.L)
	}
	var all []pair
	for n := range 3 {
		for _, m := range probe.All(n) {
			for _, l := range byN[n] {
				all = append(all, pair{m, l})
			}
		}
	}
	var jumps probe.Jumps
	for _, m := range probe.Matroids() {
		for range 20 {
			all = append(all, pair{m, byN[m.N][jumps.Next(len(byN[m.N]))]})
		}
	}
	for _, m := range probe.Known() {
		for range 50 {
			all = append(all, pair{m, byN[m.N][jumps.Next(len(byN[m.N]))]})
		}
	}
	return all
}

// TestRado holds both calls to the words of P38, and to Rado: there is either a
// list that stands or a bar. There are pairs enough of either kind.
func TestRado(t *testing.T) {
	barred, free := 0, 0
	for _, x := range pairs() {
		list := standing(x.l, func(s int) bool { return probe.Independent(x.m, s) })
		b := barring(x.l, func(s int) int { return probe.Rank(x.m, s) })
		holdOf(t, rado(), x.m, x.l, list)
		holdOf(t, radoBar(), x.m, x.l, b)
		if (list.e == api.OK) == (b.e == api.OK) {
			t.Errorf("%v, %v: Rado is %v, RadoBar %v", x.m, x.l, list, b)
		}
		if len(x.l) > 1 && b.e == api.OK {
			barred++
		} else if len(x.l) > 1 {
			free++
		}
	}
	if barred < 1000 || free < 1000 {
		t.Errorf("%d pairs are barred, %d are not", barred, free)
	}
}

// TestRadoOfFree: where every set is independent, Rado is as Stand, and RadoBar
// as Bar.
func TestRadoOfFree(t *testing.T) {
	for _, x := range probe.SetLists() {
		m := probe.Uniform(x.N, x.N)
		holdOf(t, rado(), m, x.L, stand().do(x.N, x.L))
		holdOf(t, radoBar(), m, x.L, bar().do(x.N, x.L))
	}
}

// TestRadoByHand holds answers that were found by hand.
func TestRadoByHand(t *testing.T) {
	for _, x := range []struct {
		m         api.Matroid
		l         []int
		rado, bar answer
	}{
		{probe.Uniform(0, 0), nil, answer{}, none()},
		{probe.Uniform(0, 8), nil, answer{}, none()},
		{probe.Uniform(0, 0), []int{0}, none(), answer{n: 1}},
		{probe.Uniform(0, 8), []int{255}, none(), answer{n: 1}},
		{probe.Uniform(1, 8), []int{254}, answer{l: []int{1}}, none()},
		{probe.Uniform(1, 8), []int{255, 255}, none(), answer{n: 3}},
		{probe.Uniform(2, 4), []int{15, 15, 15}, none(), answer{n: 7}},
		{probe.Uniform(2, 4), []int{1, 3}, answer{l: []int{0, 1}}, none()},
		{probe.Uniform(8, 8), []int{255, 127, 63, 31, 15, 7, 3, 1}, answer{l: []int{7, 6, 5, 4, 3, 2, 1, 0}}, none()},
		// 0 is a loop, then 2.
		{api.Matroid{N: 2, Bases: []int{2}}, []int{3}, answer{l: []int{1}}, none()},
		{api.Matroid{N: 3, Bases: []int{3}}, []int{7, 4}, none(), answer{n: 2}},
		// 0 and 1 are parallel: after 0 there must come 2.
		{api.Matroid{N: 3, Bases: []int{5, 6}}, []int{3, 7}, answer{l: []int{0, 2}}, none()},
		{api.Matroid{N: 3, Bases: []int{5, 6}}, []int{7, 3}, answer{l: []int{2, 0}}, none()},
		{api.Matroid{N: 3, Bases: []int{5, 6}}, []int{1, 2}, none(), answer{n: 3}},
		{api.Matroid{N: 3, Bases: []int{5, 6}}, []int{4, 1, 2}, none(), answer{n: 6}},
		// The edges 0, 1, 3 are a ring.
		{probe.K4(), []int{1, 2, 8}, none(), answer{n: 7}},
		{probe.K4(), []int{1, 2, 12}, answer{l: []int{0, 1, 2}}, none()},
		{probe.K4(), []int{1, 2, 40}, answer{l: []int{0, 1, 5}}, none()},
		{probe.K4(), []int{63, 63, 63}, answer{l: []int{0, 1, 2}}, none()},
		{probe.K4(), []int{11, 63, 63}, answer{l: []int{0, 1, 2}}, none()},
		{probe.K4(), []int{63, 11, 11}, answer{l: []int{2, 0, 1}}, none()},
		{probe.K4(), []int{63, 63, 63, 63}, none(), answer{n: 15}},
		// Two bars: the lesser one is not always that of fewer places.
		{probe.K4(), []int{11, 11, 11, 1, 1}, none(), answer{n: 7}},
		{probe.K4(), []int{63, 1, 1, 11, 11}, none(), answer{n: 6}},
	} {
		holdOf(t, rado(), x.m, x.l, x.rado)
		holdOf(t, radoBar(), x.m, x.l, x.bar)
	}
}
