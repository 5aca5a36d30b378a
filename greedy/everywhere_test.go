package greedy_test

import (
	"slices"
	"testing"

	"rota/api"
	"rota/greedy"
	"rota/probe"
)

// answer of any call of the package.
type answer struct {
	l       []int
	n, more int
	e       api.Errno
}

// call of a matroid.
type call struct {
	name string
	do   func(m api.Matroid) answer
}

// callOfList: call of a matroid and a list.
type callOfList struct {
	name string
	do   func(m api.Matroid, l []int) answer
}

func best(m api.Matroid, w []int) answer {
	basis, weight, e := greedy.Best(m, w)
	return answer{n: basis, more: weight, e: e}
}

func first(m api.Matroid, order []int) answer {
	basis, e := greedy.First(m, order)
	return answer{n: basis, e: e}
}

func stepsOf(m api.Matroid, w []int) answer {
	l, e := greedy.Steps(m, w)
	return answer{l: l, e: e}
}

func swap(m api.Matroid, a, b, x int) answer {
	y, e := greedy.Swap(m, a, b, x)
	return answer{n: y, e: e}
}

func ladder(m api.Matroid, a, b int) answer {
	l, e := greedy.Ladder(m, a, b)
	return answer{l: l, e: e}
}

func fundamental(m api.Matroid, b, i int) answer {
	circuit, e := greedy.Fundamental(m, b, i)
	return answer{n: circuit, e: e}
}

func callsOfLists() []callOfList {
	return []callOfList{{"Best", best}, {"First", first}, {"Steps", stepsOf}}
}

// ends of m's bases, and of none 0: what is no matroid may have no bases.
func ends(m api.Matroid) (int, int) {
	if len(m.Bases) == 0 {
		return 0, 0
	}
	return m.Bases[0], m.Bases[len(m.Bases)-1]
}

// rising: the numbers 0 to n - 1, of which there are at most eight.
func rising(n int) []int {
	var l []int
	for i := range min(n, 8) {
		l = append(l, i)
	}
	return l
}

// calls: all of them, with what suits a matroid, and with what suits none.
func calls() []call {
	l := []call{
		{"Swap", func(m api.Matroid) answer { a, b := ends(m); return swap(m, a, b, a&^b) }},
		{"Swap of no bases", func(m api.Matroid) answer { return swap(m, -1, 256, 7) }},
		{"Ladder", func(m api.Matroid) answer { a, b := ends(m); return ladder(m, a, b) }},
		{"Ladder of no bases", func(m api.Matroid) answer { return ladder(m, 256, -1) }},
		{"Fundamental", func(m api.Matroid) answer { a, _ := ends(m); return fundamental(m, a, m.N-1) }},
		{"Fundamental of no basis", func(m api.Matroid) answer { return fundamental(m, -1, -1) }},
	}
	for _, c := range callsOfLists() {
		l = append(l,
			call{c.name, func(m api.Matroid) answer { return c.do(m, rising(m.N)) }},
			call{c.name + " by nothing", func(m api.Matroid) answer { return c.do(m, nil) }},
			call{c.name + " by wide numbers", func(m api.Matroid) answer { return c.do(m, probe.Wide()) }},
			call{c.name + " by the bases", func(m api.Matroid) answer { return c.do(m, m.Bases) }},
		)
	}
	return l
}

func isRefusal(a answer, e api.Errno) bool {
	return a.e == e && len(a.l) == 0 && a.n == 0 && a.more == 0
}

// TestNoMatroids: what is said of a matroid is ahead of all else.
func TestNoMatroids(t *testing.T) {
	for _, x := range probe.Wrong() {
		for _, c := range calls() {
			if got := c.do(x.M); !isRefusal(got, x.Want) {
				t.Errorf("%s(%d, %.8v) = %v, want %d", c.name, x.M.N, x.M.Bases, got, x.Want)
			}
		}
	}
}

// TestNoPanic is P1: a panic in any of these calls ends the test.
func TestNoPanic(t *testing.T) {
	small := []api.Matroid{probe.Uniform(0, 0), probe.Uniform(1, 2), probe.Uniform(0, 8), probe.Uniform(7, 8), probe.K4()}
	for _, l := range probe.Lists() {
		for _, n := range probe.Wide() {
			for _, c := range callsOfLists() {
				c.do(api.Matroid{N: n, Bases: l}, l)
			}
		}
		for _, m := range small {
			for _, c := range callsOfLists() {
				c.do(m, l)
			}
		}
	}
	for _, m := range append(small, api.Matroid{N: 64, Bases: probe.Wide()}) {
		for _, a := range append(probe.Wide(), m.Bases...) {
			for _, b := range append(probe.Wide(), m.Bases...) {
				ladder(m, a, b)
				fundamental(m, a, b)
				for _, x := range probe.Wide() {
					swap(m, a, b, x)
				}
			}
		}
	}
}

// TestMemory is P2, of the matroids that are handed in.
func TestMemory(t *testing.T) {
	given := slices.Concat(probe.Known(), probe.All(3), probe.All(4))
	for _, x := range probe.Wrong() {
		given = append(given, x.M)
	}
	for _, m := range given {
		for _, c := range calls() {
			told := probe.Memory(m.Bases, func(bases []int) []int { return told(c.do(api.Matroid{N: m.N, Bases: bases})) })
			if told != "" {
				t.Errorf("%s(%v) %s", c.name, m, told)
			}
		}
	}
}

// told: what is in an answer, the list as it is.
func told(a answer) []int {
	if a.l != nil {
		return a.l
	}
	return []int{a.n, a.more, int(a.e)}
}

// TestMemoryOfLists is P2, of the weights and orders that are handed in.
func TestMemoryOfLists(t *testing.T) {
	for _, m := range append(probe.Known(), probe.All(4)...) {
		lists := slices.Concat(probe.SomeOrders(m.N)[:2], probe.SomeWeights(m.N)[:20], probe.Lists()[:8])
		for _, l := range lists {
			for _, c := range callsOfLists() {
				if told := probe.Memory(l, func(l []int) []int { return told(c.do(m, l)) }); told != "" {
					t.Errorf("%s(%v, %.8v) %s", c.name, m, l, told)
				}
			}
		}
	}
}
