package axioms_test

import (
	"slices"
	"testing"

	"rota/api"
	"rota/axioms"
	"rota/probe"
	"rota/sets"
)

// wantCheck: P6's words on a family of n elements, which is known to be one.
func wantCheck(bases []int) api.Errno {
	if len(bases) == 0 {
		return api.ErrArg
	}
	for _, b := range bases {
		if len(probe.Elements(b)) != len(probe.Elements(bases[0])) {
			return api.ErrArg
		}
	}
	if !probe.Exchange(bases) {
		return api.ErrShape
	}
	return api.OK
}

func holdCheck(t *testing.T, m api.Matroid) {
	t.Helper()
	if got, want := axioms.Check(m), wantCheck(m.Bases); got != want {
		t.Errorf("Check(%v) = %d, want %d", m, got, want)
	}
}

func TestCheckSmall(t *testing.T) {
	for n := range 5 {
		for f := range 1 << (1 << n) {
			holdCheck(t, api.Matroid{N: n, Bases: probe.Elements(f)})
		}
	}
	pairs, _ := sets.Choose(5, 2)
	triples, _ := sets.Choose(5, 3)
	for f := range 1 << 10 {
		var two, three []int
		for _, i := range probe.Elements(f) {
			two, three = append(two, pairs[i]), append(three, triples[i])
		}
		holdCheck(t, api.Matroid{N: 5, Bases: two})
		holdCheck(t, api.Matroid{N: 5, Bases: three})
	}
}

// toggled: l without s, if it has it, else with it.
func toggled(l []int, s int) []int {
	at, has := slices.BinarySearch(l, s)
	if has {
		return slices.Delete(slices.Clone(l), at, at+1)
	}
	return slices.Insert(slices.Clone(l), at, s)
}

func TestCheckNearlyRight(t *testing.T) {
	for _, m := range probe.Known() {
		holdCheck(t, m)
		for s := range 1 << m.N {
			holdCheck(t, api.Matroid{N: m.N, Bases: toggled(m.Bases, s)})
		}
	}
}

func TestCheckEdges(t *testing.T) {
	for _, x := range probe.Wrong() {
		if got := axioms.Check(x.M); got != x.Want {
			t.Errorf("Check(%d, %.8v) = %d, want %d", x.M.N, x.M.Bases, got, x.Want)
		}
	}
	for _, m := range []api.Matroid{
		{N: 0, Bases: []int{0}},
		{N: 1, Bases: []int{0}},
		{N: 1, Bases: []int{1}},
		{N: 4, Bases: []int{3, 5, 6, 9, 10, 12}},
		{N: 8, Bases: []int{0}},
		{N: 8, Bases: []int{255}},
		{N: 8, Bases: []int{1, 2, 4, 8, 16, 32, 64, 128}},
	} {
		if got := axioms.Check(m); got != api.OK {
			t.Errorf("Check(%v) = %d", m, got)
		}
	}
}
