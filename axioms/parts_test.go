package axioms_test

import (
	"testing"

	"rota/axioms"
	"rota/probe"
)

func TestWithIndependents(t *testing.T) {
	for _, m := range probe.Matroids() {
		got := axioms.WithIndependents(m.N, func(s int) bool { return probe.Independent(m, s) })
		if !probe.Equal(got, m) {
			t.Errorf("got %v, want %v", got, m)
		}
	}
}
