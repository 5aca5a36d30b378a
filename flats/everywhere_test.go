package flats_test

import (
	"slices"
	"testing"

	"rota/api"
	"rota/flats"
	"rota/probe"
)

// answer of any call of the package.
type answer struct {
	l    []int
	long []int64
	n    int
	is   bool
	e    api.Errno
}

// call of a matroid, and a number, if it takes one.
type call struct {
	name string
	do   func(m api.Matroid, f int) answer
}

func ofList(do func(m api.Matroid) ([]int, api.Errno)) func(m api.Matroid, _ int) answer {
	return func(m api.Matroid, _ int) answer {
		l, e := do(m)
		return answer{l: l, e: e}
	}
}

func ofLongs(do func(m api.Matroid) ([]int64, api.Errno)) func(m api.Matroid, _ int) answer {
	return func(m api.Matroid, _ int) answer {
		long, e := do(m)
		return answer{long: long, e: e}
	}
}

func covers(m api.Matroid, f int) answer {
	l, e := flats.Covers(m, f)
	return answer{l: l, e: e}
}

func modular(m api.Matroid, f int) answer {
	is, e := flats.Modular(m, f)
	return answer{is: is, e: e}
}

func chains(m api.Matroid, _ int) answer {
	n, e := flats.Chains(m)
	return answer{n: n, e: e}
}

// callsOfFlats: those whose number is a flat.
func callsOfFlats() []call { return []call{{"Covers", covers}, {"Modular", modular}} }

func calls() []call {
	return append(callsOfFlats(),
		call{"Mobius", ofLongs(flats.Mobius)},
		call{"Characteristic", ofLongs(flats.Characteristic)},
		call{"Levels", ofList(flats.Levels)},
		call{"Independent", ofList(flats.Independent)},
		call{"Broken", ofList(flats.Broken)},
		call{"Chains", chains},
	)
}

func isRefusal(a answer, e api.Errno) bool {
	return a.e == e && len(a.l) == 0 && len(a.long) == 0 && a.n == 0 && !a.is
}

// TestNoMatroids: what is said of a matroid is ahead of what is said of f.
func TestNoMatroids(t *testing.T) {
	for _, x := range probe.Wrong() {
		for _, c := range calls() {
			for _, f := range []int{0, 1, 3, 15, 255, -1, 256, 1 << 20} {
				if got := c.do(x.M, f); !isRefusal(got, x.Want) {
					t.Errorf("%s(%d, %.8v; %d) = %v, want %d", c.name, x.M.N, x.M.Bases, f, got, x.Want)
				}
			}
		}
	}
}

// TestNoFlats: neither what is no set of the elements nor a set that is no
// flat is taken.
func TestNoFlats(t *testing.T) {
	for _, m := range probe.Matroids() {
		given := append(probe.Wide(), 1<<m.N, 1<<m.N+1, -1<<m.N)
		for s := range 1 << m.N {
			given = append(given, s)
		}
		for _, f := range given {
			isFlat := f >= 0 && f < 1<<m.N && probe.Flat(m, f)
			for _, c := range callsOfFlats() {
				got := c.do(m, f)
				if !isFlat && !isRefusal(got, api.ErrArg) {
					t.Errorf("%s(%v, %d) = %v, want %d", c.name, m, f, got, api.ErrArg)
				}
				if isFlat && got.e != api.OK {
					t.Errorf("%s(%v, %d) = %v", c.name, m, f, got)
				}
			}
		}
	}
}

// TestNoPanic is P1: a panic in any of these calls ends the test.
func TestNoPanic(t *testing.T) {
	for _, n := range probe.Wide() {
		for _, l := range probe.Lists() {
			for _, c := range calls() {
				for _, f := range []int{0, 1, -1, 256} {
					c.do(api.Matroid{N: n, Bases: l}, f)
				}
			}
		}
	}
	for _, m := range probe.Matroids() {
		for _, c := range calls() {
			for _, f := range probe.Wide() {
				c.do(m, f)
			}
		}
	}
}

// told: what is in an answer that has no list.
func told(a answer) []int {
	if a.is {
		return []int{1, int(a.e)}
	}
	return []int{a.n, int(a.e)}
}

// TestMemory is P2.
func TestMemory(t *testing.T) {
	given := slices.Concat(probe.Known(), probe.All(3), probe.All(4))
	for _, x := range probe.Wrong() {
		given = append(given, x.M)
	}
	for _, m := range given {
		for _, c := range calls() {
			for _, f := range []int{0, 1, 255} {
				with := func(bases []int) answer { return c.do(api.Matroid{N: m.N, Bases: bases}, f) }
				for _, broken := range []string{
					probe.Memory(m.Bases, func(bases []int) []int { return with(bases).l }),
					probe.Memory(m.Bases, func(bases []int) []int64 { return with(bases).long }),
					probe.Memory(m.Bases, func(bases []int) []int { return told(with(bases)) }),
				} {
					if broken != "" {
						t.Errorf("%s(%v, %d) %s", c.name, m, f, broken)
					}
				}
			}
		}
	}
}
