package axioms_test

import (
	"math"
	"slices"
	"testing"

	"rota/api"
	"rota/axioms"
	"rota/probe"
	"rota/sets"
)

// elements of a number's bits, asked one by one.
func elements(s int) []int {
	var l []int
	for e := range 62 {
		if s>>e&1 == 1 {
			l = append(l, e)
		}
	}
	return l
}

// wantCheck: P6's words on a family of n elements, which is known to be one.
func wantCheck(bases []int) api.Errno {
	if len(bases) == 0 {
		return api.ErrArg
	}
	for _, b := range bases {
		if len(elements(b)) != len(elements(bases[0])) {
			return api.ErrArg
		}
	}
	if !probe.Exchange(bases) {
		return api.ErrShape
	}
	return api.OK
}

func holdCheck(t *testing.T, m api.Matroid) {
	t.Helper()
	if got, want := axioms.Check(m), wantCheck(m.Bases); got != want {
		t.Errorf("Check(%v) = %d, want %d", m, got, want)
	}
}

func TestCheckSmall(t *testing.T) {
	for n := range 5 {
		for f := range 1 << (1 << n) {
			holdCheck(t, api.Matroid{N: n, Bases: elements(f)})
		}
	}
	pairs, _ := sets.Choose(5, 2)
	triples, _ := sets.Choose(5, 3)
	for f := range 1 << 10 {
		var two, three []int
		for _, i := range elements(f) {
			two, three = append(two, pairs[i]), append(three, triples[i])
		}
		holdCheck(t, api.Matroid{N: 5, Bases: two})
		holdCheck(t, api.Matroid{N: 5, Bases: three})
	}
}

// toggled: l without s, if it has it, else with it.
func toggled(l []int, s int) []int {
	at, has := slices.BinarySearch(l, s)
	if has {
		return slices.Delete(slices.Clone(l), at, at+1)
	}
	return slices.Insert(slices.Clone(l), at, s)
}

func TestCheckNearlyRight(t *testing.T) {
	for _, m := range probe.Known() {
		holdCheck(t, m)
		for s := range 1 << m.N {
			holdCheck(t, api.Matroid{N: m.N, Bases: toggled(m.Bases, s)})
		}
	}
}

// wrong holds what is no matroid, beside what Check says of it.
func wrong() []struct {
	m    api.Matroid
	want api.Errno
} {
	return []struct {
		m    api.Matroid
		want api.Errno
	}{
		{api.Matroid{N: 0}, api.ErrArg},
		{api.Matroid{N: 3, Bases: []int{}}, api.ErrArg},
		{api.Matroid{N: -1, Bases: []int{0}}, api.ErrArg},
		{api.Matroid{N: 9, Bases: []int{0}}, api.ErrArg},
		{api.Matroid{N: math.MinInt, Bases: []int{0}}, api.ErrArg},
		{api.Matroid{N: math.MaxInt, Bases: []int{1}}, api.ErrArg},
		{api.Matroid{N: 64, Bases: []int{1}}, api.ErrArg},
		{api.Matroid{N: 0, Bases: []int{1}}, api.ErrArg},
		{api.Matroid{N: 2, Bases: []int{4}}, api.ErrArg},
		{api.Matroid{N: 2, Bases: []int{-1}}, api.ErrArg},
		{api.Matroid{N: 2, Bases: []int{2, 1}}, api.ErrArg},
		{api.Matroid{N: 2, Bases: []int{1, 1}}, api.ErrArg},
		{api.Matroid{N: 2, Bases: []int{0, 1}}, api.ErrArg},
		{api.Matroid{N: 3, Bases: []int{1, 2, 7}}, api.ErrArg},
		{api.Matroid{N: 8, Bases: []int{255, 256}}, api.ErrArg},
		{api.Matroid{N: 8, Bases: []int{1, math.MaxInt}}, api.ErrArg},
		{api.Matroid{N: 8, Bases: make([]int, 1<<16)}, api.ErrArg},
		// They can not be exchanged, but what is told first holds.
		{api.Matroid{N: 4, Bases: []int{3, 12, 14}}, api.ErrArg},
		{api.Matroid{N: 4, Bases: []int{12, 3}}, api.ErrArg},
		{api.Matroid{N: 4, Bases: []int{3, 12}}, api.ErrShape},
		{api.Matroid{N: 4, Bases: []int{5, 10}}, api.ErrShape},
		{api.Matroid{N: 8, Bases: []int{15, 240}}, api.ErrShape},
		{api.Matroid{N: 6, Bases: []int{7, 11, 13, 14, 56}}, api.ErrShape},
	}
}

func TestCheckEdges(t *testing.T) {
	for _, x := range wrong() {
		if got := axioms.Check(x.m); got != x.want {
			t.Errorf("Check(%d, %.8v) = %d, want %d", x.m.N, x.m.Bases, got, x.want)
		}
	}
	for _, m := range []api.Matroid{
		{N: 0, Bases: []int{0}},
		{N: 1, Bases: []int{0}},
		{N: 1, Bases: []int{1}},
		{N: 4, Bases: []int{3, 5, 6, 9, 10, 12}},
		{N: 8, Bases: []int{0}},
		{N: 8, Bases: []int{255}},
		{N: 8, Bases: []int{1, 2, 4, 8, 16, 32, 64, 128}},
	} {
		if got := axioms.Check(m); got != api.OK {
			t.Errorf("Check(%v) = %d", m, got)
		}
	}
}
