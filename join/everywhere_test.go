package join_test

import (
	"slices"
	"testing"

	"rota/api"
	"rota/join"
	"rota/probe"
)

// answer of any call of the package.
type answer struct {
	m api.Matroid
	l []int
	n int
	e api.Errno
}

// call of a matroid.
type call struct {
	name string
	do   func(m api.Matroid) answer
}

func union(a, b api.Matroid) answer {
	m, e := join.Union(a, b)
	return answer{m: m, e: e}
}

func cover(m api.Matroid) answer {
	l, e := join.Cover(m)
	return answer{l: l, e: e}
}

func dense(m api.Matroid) answer {
	n, e := join.Dense(m)
	return answer{n: n, e: e}
}

func pack(m api.Matroid) answer {
	l, e := join.Pack(m)
	return answer{l: l, e: e}
}

func weak(m api.Matroid) answer {
	n, e := join.Weak(m)
	return answer{n: n, e: e}
}

// beside: a matroid with as many elements as m, if it may have so many.
func beside(m api.Matroid) api.Matroid {
	n := max(0, min(m.N, api.MaxGround))
	return probe.Uniform(n/2, n)
}

// calls: all of them; Union on either side of another matroid, of one of which
// all elements are loops, and with itself.
func calls() []call {
	return []call{
		{"Union, first", func(m api.Matroid) answer { return union(m, beside(m)) }},
		{"Union, second", func(m api.Matroid) answer { return union(beside(m), m) }},
		{"Union, twice", func(m api.Matroid) answer { return union(m, m) }},
		{"Union with loops", func(m api.Matroid) answer { return union(m, probe.Uniform(0, beside(m).N)) }},
		{"Union behind loops", func(m api.Matroid) answer { return union(probe.Uniform(0, beside(m).N), m) }},
		{"Union with three", func(m api.Matroid) answer { return union(m, probe.Uniform(1, 3)) }},
		{"Union behind three", func(m api.Matroid) answer { return union(probe.Uniform(1, 3), m) }},
		{"Cover", cover},
		{"Dense", dense},
		{"Pack", pack},
		{"Weak", weak},
	}
}

func isRefusal(a answer, e api.Errno) bool {
	return a.e == e && a.m.N == 0 && len(a.m.Bases) == 0 && len(a.l) == 0 && a.n == 0
}

// TestNoMatroids: what is said of a matroid is ahead of all else.
func TestNoMatroids(t *testing.T) {
	for _, x := range probe.Wrong() {
		for _, c := range calls() {
			if got := c.do(x.M); !isRefusal(got, x.Want) {
				t.Errorf("%s(%d, %.8v) = %v, want %d", c.name, x.M.N, x.M.Bases, got, x.Want)
			}
		}
	}
}

// TestNoPanic is P1: a panic in any of these calls ends the test.
func TestNoPanic(t *testing.T) {
	for _, n := range probe.Wide() {
		for _, l := range probe.Lists() {
			for _, c := range calls() {
				c.do(api.Matroid{N: n, Bases: l})
			}
		}
	}
	for _, m := range probe.Matroids() {
		for _, c := range calls() {
			c.do(m)
		}
	}
}

// told: what is in an answer, a list as it is.
func told(a answer) []int {
	if a.l != nil {
		return a.l
	}
	if a.m.Bases != nil {
		return a.m.Bases
	}
	return []int{a.n, int(a.e)}
}

// TestMemory is P2.
func TestMemory(t *testing.T) {
	given := slices.Concat(probe.Known(), probe.All(3), probe.All(4))
	for _, x := range probe.Wrong() {
		given = append(given, x.M)
	}
	for _, m := range given {
		for _, c := range calls() {
			broken := probe.Memory(m.Bases, func(bases []int) []int { return told(c.do(api.Matroid{N: m.N, Bases: bases})) })
			if broken != "" {
				t.Errorf("%s(%v) %s", c.name, m, broken)
			}
		}
	}
}
