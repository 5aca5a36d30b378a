package same_test

import (
	"slices"
	"testing"

	"rota/api"
	"rota/probe"
	"rota/same"
)

// answer of any call of the package.
type answer struct {
	m       api.Matroid
	l       []int
	n, more int
	e       api.Errno
}

// list that an answer holds.
func (a answer) list() []int {
	if a.m.Bases != nil {
		return a.m.Bases
	}
	return a.l
}

// call of a matroid.
type call struct {
	name string
	do   func(m api.Matroid) answer
}

func rename(m api.Matroid, p []int) answer {
	made, e := same.Rename(m, p)
	return answer{m: made, e: e}
}

func isomorphic(a, b api.Matroid) answer {
	l, e := same.Isomorphic(a, b)
	return answer{l: l, e: e}
}

func minor(m, k api.Matroid) answer {
	d, c, e := same.Minor(m, k)
	return answer{n: d, more: c, e: e}
}

// callsOfOne: the calls that take one matroid, Rename by an order and by what
// is none.
func callsOfOne() []call {
	return []call{
		{"Rename", func(m api.Matroid) answer { return rename(m, []int{2, 0, 1}) }},
		{"Rename by eight", func(m api.Matroid) answer { return rename(m, []int{7, 6, 5, 4, 3, 2, 1, 0}) }},
		{"Rename by nothing", func(m api.Matroid) answer { return rename(m, nil) }},
		{"Rename by no order", func(m api.Matroid) answer { return rename(m, []int{-1, 9, 9}) }},
		{"Group", func(m api.Matroid) answer {
			n, e := same.Group(m)
			return answer{n: n, e: e}
		}},
		{"Orbits", func(m api.Matroid) answer {
			l, e := same.Orbits(m)
			return answer{l: l, e: e}
		}},
		{"Canon", func(m api.Matroid) answer {
			made, e := same.Canon(m)
			return answer{m: made, e: e}
		}},
	}
}

// calls: all of them; those of two matroids on either side of another one,
// and of one that is both.
func calls() []call {
	k, fano := probe.K4(), probe.Fano()
	return append(callsOfOne(),
		call{"Isomorphic, first", func(m api.Matroid) answer { return isomorphic(m, k) }},
		call{"Isomorphic, second", func(m api.Matroid) answer { return isomorphic(k, m) }},
		call{"Isomorphic, twice", func(m api.Matroid) answer { return isomorphic(m, m) }},
		call{"Minor, first", func(m api.Matroid) answer { return minor(m, k) }},
		call{"Minor, second", func(m api.Matroid) answer { return minor(fano, m) }},
		call{"Minor, twice", func(m api.Matroid) answer { return minor(m, m) }},
	)
}

func isRefusal(a answer, e api.Errno) bool {
	return a.e == e && a.m.N == 0 && len(a.m.Bases) == 0 && len(a.l) == 0 && a.n == 0 && a.more == 0
}

// TestNoMatroids: what is said of a matroid is ahead of all else.
func TestNoMatroids(t *testing.T) {
	for _, x := range probe.Wrong() {
		for _, c := range calls() {
			if got := c.do(x.M); !isRefusal(got, x.Want) {
				t.Errorf("%s(%d, %.8v) = %v, want %d", c.name, x.M.N, x.M.Bases, got, x.Want)
			}
		}
	}
}

// TestTwoNoMatroids: the first that is none is told.
func TestTwoNoMatroids(t *testing.T) {
	for _, a := range probe.Wrong() {
		for _, b := range probe.Wrong() {
			if got := isomorphic(a.M, b.M); !isRefusal(got, a.Want) {
				t.Errorf("Isomorphic(%.8v, %.8v) = %v, want %d", a.M, b.M, got, a.Want)
			}
			if got := minor(a.M, b.M); !isRefusal(got, a.Want) {
				t.Errorf("Minor(%.8v, %.8v) = %v, want %d", a.M, b.M, got, a.Want)
			}
		}
	}
}

// TestNoPanic is P1: a panic in any of these calls ends the test.
func TestNoPanic(t *testing.T) {
	for _, n := range probe.Wide() {
		for _, l := range probe.Lists() {
			m := api.Matroid{N: n, Bases: l}
			for _, c := range calls() {
				c.do(m)
			}
			same.Rename(m, l)
			for _, k := range []api.Matroid{probe.Uniform(0, 0), probe.Uniform(1, 2), probe.Uniform(0, 8)} {
				same.Rename(k, l)
			}
		}
	}
	for _, m := range probe.Matroids() {
		for _, c := range calls() {
			c.do(m)
		}
	}
}

// TestMemory is P2, of the matroids that are handed in.
func TestMemory(t *testing.T) {
	given := append(probe.Known()[:12], probe.All(3)...)
	for _, x := range probe.Wrong() {
		given = append(given, x.M)
	}
	for _, m := range given {
		for _, c := range calls() {
			told := probe.Memory(m.Bases, func(bases []int) []int { return c.do(api.Matroid{N: m.N, Bases: bases}).list() })
			if told != "" {
				t.Errorf("%s(%v) %s", c.name, m, told)
			}
		}
	}
}

// TestMemoryOfOrders is P2, of the order that is handed to Rename.
func TestMemoryOfOrders(t *testing.T) {
	for _, m := range append(probe.Known(), probe.All(4)...) {
		for _, p := range slices.Concat(probe.SomeOrders(m.N)[:2], probe.Lists()) {
			told := probe.Memory(p, func(p []int) []int { return rename(m, p).list() })
			if told != "" {
				t.Errorf("Rename(%v, %.8v) %s", m, p, told)
			}
		}
	}
	// One list as both: the only basis is the empty set, the only element 0.
	told := probe.Memory([]int{0}, func(l []int) []int { return rename(api.Matroid{N: 1, Bases: l}, l).list() })
	if told != "" {
		t.Errorf("Rename by the list of bases %s", told)
	}
}
