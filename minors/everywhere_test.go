package minors_test

import (
	"testing"

	"rota/api"
	"rota/minors"
	"rota/probe"
)

// answer of any call of the package.
type answer struct {
	m api.Matroid
	l []int
	e api.Errno
}

// call of a matroid, and a number, if it takes one.
type call struct {
	name string
	do   func(m api.Matroid, s int) answer
}

func ofMatroid(do func(m api.Matroid) (api.Matroid, api.Errno)) func(m api.Matroid, _ int) answer {
	return func(m api.Matroid, _ int) answer {
		made, e := do(m)
		return answer{m: made, e: e}
	}
}

func ofSet(do func(m api.Matroid, s int) (api.Matroid, api.Errno)) func(m api.Matroid, s int) answer {
	return func(m api.Matroid, s int) answer {
		made, e := do(m, s)
		return answer{m: made, e: e}
	}
}

func ofList(do func(m api.Matroid) ([]int, api.Errno)) func(m api.Matroid, _ int) answer {
	return func(m api.Matroid, _ int) answer {
		l, e := do(m)
		return answer{l: l, e: e}
	}
}

// calls: all of them; Sum on either side of another matroid, and with itself.
func calls() []call {
	sumWith := func(m api.Matroid) (api.Matroid, api.Errno) { return minors.Sum(m, probe.Uniform(1, 2)) }
	sumBehind := func(m api.Matroid) (api.Matroid, api.Errno) { return minors.Sum(probe.Uniform(1, 2), m) }
	sumTwice := func(m api.Matroid) (api.Matroid, api.Errno) { return minors.Sum(m, m) }
	sumNothing := func(m api.Matroid) (api.Matroid, api.Errno) { return minors.Sum(m, probe.Uniform(0, 0)) }
	sumBehindNothing := func(m api.Matroid) (api.Matroid, api.Errno) { return minors.Sum(probe.Uniform(0, 0), m) }
	sumLarge := func(m api.Matroid) (api.Matroid, api.Errno) { return minors.Sum(probe.Uniform(8, 8), m) }
	return append(callsOfSets(),
		call{"Dual", ofMatroid(minors.Dual)},
		call{"Sum, first", ofMatroid(sumWith)},
		call{"Sum, second", ofMatroid(sumBehind)},
		call{"Sum, twice", ofMatroid(sumTwice)},
		call{"Sum with nothing", ofMatroid(sumNothing)},
		call{"Sum behind nothing", ofMatroid(sumBehindNothing)},
		call{"Sum behind eight", ofMatroid(sumLarge)},
		call{"Truncate", ofSet(minors.Truncate)},
		call{"Free", ofMatroid(minors.Free)},
		call{"Classes", ofList(minors.Classes)},
		call{"Simple", ofMatroid(minors.Simple)},
		call{"Components", ofList(minors.Components)},
	)
}

// callsOfSets: those whose number is a set.
func callsOfSets() []call {
	return []call{
		{"Delete", ofSet(minors.Delete)},
		{"Contract", ofSet(minors.Contract)},
		{"Relax", ofSet(minors.Relax)},
	}
}

func isRefusal(a answer, e api.Errno) bool {
	return a.e == e && a.m.N == 0 && len(a.m.Bases) == 0 && len(a.l) == 0
}

// TestNoMatroids: what is said of a matroid is ahead of all else.
func TestNoMatroids(t *testing.T) {
	for _, x := range probe.Wrong() {
		for _, c := range calls() {
			for _, s := range []int{0, 1, -1, 9, 1 << 20} {
				if got := c.do(x.M, s); !isRefusal(got, x.Want) {
					t.Errorf("%s(%d, %.8v; %d) = %v, want %d", c.name, x.M.N, x.M.Bases, s, got, x.Want)
				}
			}
		}
	}
}

// TestSumOfNoMatroids: the first that is none is told.
func TestSumOfNoMatroids(t *testing.T) {
	for _, a := range probe.Wrong() {
		for _, b := range probe.Wrong() {
			if got, e := minors.Sum(a.M, b.M); !isRefusal(answer{m: got, e: e}, a.Want) {
				t.Errorf("Sum(%.8v, %.8v) = %v, %d, want %d", a.M, b.M, got, e, a.Want)
			}
		}
	}
}

func TestNoSets(t *testing.T) {
	for _, m := range probe.Matroids() {
		for _, s := range append(probe.Wide(), 1<<m.N) {
			if s >= 0 && s < 1<<m.N {
				continue
			}
			for _, c := range callsOfSets() {
				if got := c.do(m, s); !isRefusal(got, api.ErrArg) {
					t.Errorf("%s(%v, %d) = %v, want %d", c.name, m, s, got, api.ErrArg)
				}
			}
		}
	}
}

// TestNoPanic is P1: a panic in any of these calls ends the test.
func TestNoPanic(t *testing.T) {
	for _, n := range probe.Wide() {
		for _, l := range probe.Lists() {
			for _, s := range probe.Wide() {
				for _, c := range calls() {
					c.do(api.Matroid{N: n, Bases: l}, s)
				}
			}
		}
	}
	for _, m := range probe.Matroids() {
		for _, s := range probe.Wide() {
			for _, c := range calls() {
				c.do(m, s)
			}
		}
	}
}

// TestMemory is P2.
func TestMemory(t *testing.T) {
	given := append(probe.Known(), probe.All(4)...)
	for _, x := range probe.Wrong() {
		given = append(given, x.M)
	}
	for _, m := range given {
		for _, c := range calls() {
			for s := range 1 << min(max(m.N, 0), 4) {
				told := probe.Memory(m.Bases, func(bases []int) []int {
					got := c.do(api.Matroid{N: m.N, Bases: bases}, s)
					if got.l != nil {
						return got.l
					}
					return got.m.Bases
				})
				if told != "" {
					t.Errorf("%s(%v, %d) %s", c.name, m, s, told)
				}
			}
		}
	}
}
