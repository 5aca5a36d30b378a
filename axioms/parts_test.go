package axioms_test

import (
	"slices"
	"testing"

	"rota/api"
	"rota/axioms"
	"rota/probe"
)

func TestWithIndependents(t *testing.T) {
	for _, m := range probe.Matroids() {
		got := axioms.WithIndependents(m.N, func(s int) bool { return probe.Independent(m, s) })
		if !probe.Equal(got, m) {
			t.Errorf("got %v, want %v", got, m)
		}
	}
}

func TestCheckBases(t *testing.T) {
	for _, m := range append(probe.Known(), probe.All(4)...) {
		if e := axioms.CheckBases(m, m.Bases...); e != api.OK {
			t.Errorf("CheckBases(%v) = %d", m, e)
		}
		for _, s := range append(probe.Wide(), 5, 12, 15) {
			want := api.ErrArg
			if slices.Contains(m.Bases, s) {
				want = api.OK
			}
			if e := axioms.CheckBases(m, m.Bases[0], s); e != want {
				t.Errorf("CheckBases(%v, %d) = %d, want %d", m, s, e, want)
			}
		}
	}
	for _, x := range probe.Wrong() {
		if e := axioms.CheckBases(x.M, -1); e != x.Want {
			t.Errorf("CheckBases(%d, %.8v) = %d, want %d", x.M.N, x.M.Bases, e, x.Want)
		}
	}
}
