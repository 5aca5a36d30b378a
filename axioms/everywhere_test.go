package axioms_test

import (
	"testing"

	"rota/api"
	"rota/axioms"
	"rota/probe"
)

// allMakers: those of families, and that of ranks.
func allMakers() []maker {
	ofRanks := maker{name: "OfRanks", make: axioms.OfRanks, tell: func(m api.Matroid) []int {
		l, _ := axioms.Ranks(m)
		return l
	}}
	return append(makers(), ofRanks)
}

// TestNoPanic is P1: a panic in any of these calls ends the test.
func TestNoPanic(t *testing.T) {
	for _, n := range probe.Wide() {
		for _, l := range probe.Lists() {
			m := api.Matroid{N: n, Bases: l}
			axioms.Check(m)
			for _, c := range calls() {
				c.tell(m)
			}
			for _, k := range allMakers() {
				k.make(n, l)
			}
			for _, s := range probe.Wide() {
				axioms.Closure(m, s)
			}
		}
	}
}

func holdMemory(t *testing.T, name string, n int, l []int, do func(l []int) []int) {
	t.Helper()
	if told := probe.Memory(l, do); told != "" {
		t.Errorf("%s(%d, %v) %s", name, n, l, told)
	}
}

// TestMemory is P2.
func TestMemory(t *testing.T) {
	given := append(probe.Known(), probe.All(4)...)
	for _, x := range probe.Wrong() {
		given = append(given, x.M)
	}
	for _, m := range given {
		for _, c := range calls() {
			holdMemory(t, c.name, m.N, m.Bases, func(l []int) []int {
				answer, _ := c.tell(api.Matroid{N: m.N, Bases: l})
				return answer
			})
		}
		holdMemory(t, "Check and Closure", m.N, m.Bases, func(l []int) []int {
			again := api.Matroid{N: m.N, Bases: l}
			closed, e := axioms.Closure(again, 1)
			return []int{int(axioms.Check(again)), closed, int(e)}
		})
	}
	for _, k := range allMakers() {
		for _, m := range given {
			l := m.Bases
			if axioms.Check(m) == api.OK {
				l = k.tell(m)
			}
			holdMemory(t, k.name, m.N, l, func(l []int) []int {
				made, _ := k.make(m.N, l)
				return made.Bases
			})
		}
	}
}
