package meet_test

import (
	"slices"
	"testing"

	"rota/api"
	"rota/meet"
	"rota/probe"
)

// answer of any call of the package.
type answer struct {
	l       []int
	n, more int
	e       api.Errno
}

// call of two matroids.
type call struct {
	name string
	do   func(a, b api.Matroid) answer
}

func common(a, b api.Matroid) answer {
	set, bar, e := meet.Common(a, b)
	return answer{n: set, more: bar, e: e}
}

func heaviest(a, b api.Matroid, w []int) answer {
	l, e := meet.Heaviest(a, b, w)
	return answer{l: l, e: e}
}

func spanned(a, b api.Matroid, s int) answer {
	n, e := meet.Spanned(a, b, s)
	return answer{n: n, e: e}
}

// rising: the numbers 0 to n - 1, of which there are at most eight.
func rising(n int) []int {
	var l []int
	for i := range min(n, 8) {
		l = append(l, i)
	}
	return l
}

// calls: all of them, with what suits a, and with what suits none.
func calls() []call {
	return []call{
		{"Common", common},
		{"Heaviest", func(a, b api.Matroid) answer { return heaviest(a, b, rising(a.N)) }},
		{"Heaviest by nothing", func(a, b api.Matroid) answer { return heaviest(a, b, nil) }},
		{"Heaviest by wide numbers", func(a, b api.Matroid) answer { return heaviest(a, b, probe.Wide()) }},
		{"Heaviest by the bases", func(a, b api.Matroid) answer { return heaviest(a, b, a.Bases) }},
		{"Spanned", func(a, b api.Matroid) answer { return spanned(a, b, 0) }},
		{"Spanned of one", func(a, b api.Matroid) answer { return spanned(a, b, 1) }},
		{"Spanned of no set", func(a, b api.Matroid) answer { return spanned(a, b, -1) }},
		{"Spanned of none either", func(a, b api.Matroid) answer { return spanned(a, b, 256) }},
	}
}

func isRefusal(a answer, e api.Errno) bool {
	return a.e == e && len(a.l) == 0 && a.n == 0 && a.more == 0
}

// beside: a matroid with as many elements as m, if it may have so many.
func beside(m api.Matroid) api.Matroid {
	n := max(0, min(m.N, api.MaxGround))
	return probe.Uniform(n/2, n)
}

// TestNoMatroids: the first that is none is told, ahead of all else.
func TestNoMatroids(t *testing.T) {
	hold := func(c call, a, b api.Matroid, want api.Errno) {
		if got := c.do(a, b); !isRefusal(got, want) {
			t.Errorf("%s(%.8v, %.8v) = %v, want %d", c.name, a, b, got, want)
		}
	}
	for _, c := range calls() {
		for _, x := range probe.Wrong() {
			for n := range 9 {
				hold(c, x.M, probe.Uniform(n/2, n), x.Want)
				hold(c, probe.Uniform(n/2, n), x.M, x.Want)
			}
			for _, y := range probe.Wrong() {
				hold(c, x.M, y.M, x.Want)
			}
		}
	}
}

// TestUnlike: that they have not as many elements is told ahead of what is
// wrong with weights and sets.
func TestUnlike(t *testing.T) {
	var given []api.Matroid
	for n := range 9 {
		given = append(given, probe.Uniform(0, n), probe.Uniform(n, n), probe.Uniform(n/2, n))
	}
	for _, a := range given {
		for _, b := range given {
			if a.N == b.N {
				continue
			}
			all := append(calls(),
				call{"Heaviest by too much", func(a, b api.Matroid) answer { return heaviest(a, b, slices.Repeat([]int{1001}, a.N)) }},
				call{"Heaviest by the second's", func(a, b api.Matroid) answer { return heaviest(a, b, rising(b.N)) }},
			)
			for _, c := range all {
				if got := c.do(a, b); !isRefusal(got, api.ErrShape) {
					t.Errorf("%s(%v, %v) = %v, want %d", c.name, a, b, got, api.ErrShape)
				}
			}
		}
	}
}

// TestNoPanic is P1: a panic in any of these calls ends the test.
func TestNoPanic(t *testing.T) {
	small := []api.Matroid{probe.Uniform(0, 0), probe.Uniform(1, 2), probe.Uniform(0, 8), probe.Uniform(7, 8), probe.K4()}
	for _, l := range probe.Lists() {
		for _, n := range probe.Wide() {
			m := api.Matroid{N: n, Bases: l}
			for _, c := range calls() {
				c.do(m, m)
				c.do(m, beside(m))
				c.do(beside(m), m)
			}
		}
		for _, m := range small {
			heaviest(m, m, l)
			heaviest(m, beside(m), l)
		}
	}
	for _, m := range append(small, api.Matroid{N: 64, Bases: probe.Wide()}) {
		for _, s := range probe.Wide() {
			spanned(m, m, s)
			spanned(m, beside(m), s)
		}
	}
}

// told: what is in an answer, a list as it is.
func told(a answer) []int {
	if a.l != nil {
		return a.l
	}
	return []int{a.n, a.more, int(a.e)}
}

// TestMemory is P2, of the matroids that are handed in: first, second, and
// one as both.
func TestMemory(t *testing.T) {
	given := slices.Concat(probe.Known(), probe.All(3), probe.All(4))
	for _, x := range probe.Wrong() {
		given = append(given, x.M)
	}
	for _, m := range given {
		with := func(bases []int) api.Matroid { return api.Matroid{N: m.N, Bases: bases} }
		for _, c := range calls() {
			for _, do := range []func(bases []int) []int{
				func(bases []int) []int { return told(c.do(with(bases), beside(m))) },
				func(bases []int) []int { return told(c.do(beside(m), with(bases))) },
				func(bases []int) []int { return told(c.do(with(bases), with(bases))) },
			} {
				if broken := probe.Memory(m.Bases, do); broken != "" {
					t.Errorf("%s of %v %s", c.name, m, broken)
				}
			}
		}
	}
}

// TestMemoryOfWeights is P2, of the weights that are handed in.
func TestMemoryOfWeights(t *testing.T) {
	for _, m := range append(probe.Known(), probe.All(4)...) {
		for _, w := range append(probe.SomeWeights(m.N)[:20], probe.Lists()[:8]...) {
			broken := probe.Memory(w, func(w []int) []int { return told(heaviest(m, beside(m), w)) })
			if broken != "" {
				t.Errorf("Heaviest(%v, %v, %.8v) %s", m, beside(m), w, broken)
			}
		}
	}
}
