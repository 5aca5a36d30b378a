package hall_test

import (
	"slices"
	"testing"

	"rota/api"
	"rota/hall"
	"rota/probe"
)

// answer of any call of the package.
type answer struct {
	l       []int
	n, more int
	e       api.Errno
}

func (a answer) is(b answer) bool {
	return slices.Equal(a.l, b.l) && a.n == b.n && a.more == b.more && a.e == b.e
}

// none is there of what is asked for.
func none() answer { return answer{e: api.ErrNone} }

// call of a list of sets.
type call struct {
	name string
	do   func(n int, l []int) answer
}

func check() call {
	return call{"Check", func(n int, l []int) answer { return answer{e: hall.Check(n, l)} }}
}

func most() call {
	return call{"Most", func(n int, l []int) answer {
		many, e := hall.Most(n, l)
		return answer{n: many, e: e}
	}}
}

func stand() call {
	return call{"Stand", func(n int, l []int) answer {
		found, e := hall.Stand(n, l)
		return answer{l: found, e: e}
	}}
}

func bar() call {
	return call{"Bar", func(n int, l []int) answer {
		places, e := hall.Bar(n, l)
		return answer{n: places, e: e}
	}}
}

func lines() call {
	return call{"Lines", func(n int, l []int) answer {
		rows, columns, e := hall.Lines(n, l)
		return answer{n: rows, more: columns, e: e}
	}}
}

func calls() []call { return []call{check(), most(), stand(), bar(), lines()} }

// callOf a matroid and a list of its sets.
type callOf struct {
	name string
	do   func(m api.Matroid, l []int) answer
}

func rado() callOf {
	return callOf{"Rado", func(m api.Matroid, l []int) answer {
		found, e := hall.Rado(m, l)
		return answer{l: found, e: e}
	}}
}

func radoBar() callOf {
	return callOf{"RadoBar", func(m api.Matroid, l []int) answer {
		places, e := hall.RadoBar(m, l)
		return answer{n: places, e: e}
	}}
}

func callsOf() []callOf { return []callOf{rado(), radoBar()} }

func hold(t *testing.T, c call, x probe.SetList, want answer) {
	t.Helper()
	if got := c.do(x.N, x.L); !got.is(want) {
		t.Errorf("%s(%d, %.10v) = %v, want %v", c.name, x.N, x.L, got, want)
	}
}

func holdOf(t *testing.T, c callOf, m api.Matroid, l []int, want answer) {
	t.Helper()
	if got := c.do(m, l); !got.is(want) {
		t.Errorf("%s(%d, %.8v; %.10v) = %v, want %v", c.name, m.N, m.Bases, l, got, want)
	}
}

// TestNoSets: beside matroids of as many elements, where there can be such.
func TestNoSets(t *testing.T) {
	for _, x := range probe.WrongSets() {
		for _, c := range calls() {
			hold(t, c, x.SetList, answer{e: x.Want})
		}
		if x.N < 0 || x.N > api.MaxGround {
			continue
		}
		for _, c := range callsOf() {
			for _, rank := range []int{0, x.N / 2, x.N} {
				holdOf(t, c, probe.Uniform(rank, x.N), x.L, answer{e: x.Want})
			}
		}
	}
}

// TestNoMatroids: what is said of a matroid is ahead of what is said of sets.
func TestNoMatroids(t *testing.T) {
	for _, x := range probe.Wrong() {
		for _, c := range callsOf() {
			for _, l := range append(probe.Lists(), []int{1, 3}) {
				holdOf(t, c, x.M, l, answer{e: x.Want})
			}
		}
	}
}

// TestNoPanic is P1: a panic in any of these calls ends the test.
func TestNoPanic(t *testing.T) {
	all := probe.Lists()
	for _, n := range probe.Wide() {
		for _, l := range all {
			for _, c := range calls() {
				c.do(n, l)
			}
			for _, c := range callsOf() {
				c.do(api.Matroid{N: n, Bases: l}, l)
				c.do(api.Matroid{N: n, Bases: []int{1, 2}}, l)
				c.do(api.Matroid{N: 3, Bases: l}, []int{n, 1})
				c.do(api.Matroid{N: 3, Bases: []int{3, 5, 6}}, append([]int{n}, l...))
			}
		}
	}
}

// told: what is in an answer, a list as it is.
func told(a answer) []int {
	if a.l != nil {
		return a.l
	}
	return []int{a.n, a.more, int(a.e)}
}

// TestMemory is P2: of the list that is handed in, of the matroid, and of one
// list that is both.
func TestMemory(t *testing.T) {
	given := probe.SetLists()[500:]
	for _, l := range probe.Lists() {
		given = append(given, probe.SetList{N: 4, L: l})
	}
	report := func(name string, x probe.SetList, broken string) {
		if broken != "" {
			t.Errorf("%s(%d, %.10v) %s", name, x.N, x.L, broken)
		}
	}
	for _, x := range given {
		for _, c := range calls() {
			report(c.name, x, probe.Memory(x.L, func(l []int) []int { return told(c.do(x.N, l)) }))
		}
		m := probe.Uniform(x.N-1, x.N)
		for _, c := range callsOf() {
			report(c.name, x, probe.Memory(x.L, func(l []int) []int { return told(c.do(m, l)) }))
			report(c.name+", the bases", x, probe.Memory(m.Bases, func(bases []int) []int {
				return told(c.do(api.Matroid{N: x.N, Bases: bases}, x.L))
			}))
			report(c.name+", both", x, probe.Memory(x.L, func(l []int) []int {
				return told(c.do(api.Matroid{N: x.N, Bases: l}, l))
			}))
		}
	}
	broken := probe.Memory([]int{1, 2, 4}, func(l []int) []int { return told(rado().do(api.Matroid{N: 3, Bases: l}, l[:1])) })
	report("Rado, the bases as sets", probe.SetList{N: 3}, broken)
}
