package repr_test

import (
	"slices"
	"testing"

	"rota/api"
	"rota/probe"
	"rota/repr"
)

// answer of any call of the package.
type answer struct {
	x  api.Matrix
	is bool
	e  api.Errno
}

// told: all that is in an answer.
func told(a answer) []int {
	l := append(slices.Concat(a.x.Rows...), int(a.e), a.x.P, a.x.Cols, len(a.x.Rows))
	if a.is {
		l = append(l, 1)
	}
	return l
}

func isRefusal(a answer, e api.Errno) bool { return a.e == e && isZero(a.x) && !a.is }

// call of a matroid, and of a modulus, if it takes one.
type call struct {
	name string
	do   func(m api.Matroid, p int) answer
}

func ofKind(name string, do func(api.Matroid) (bool, api.Errno)) call {
	return call{name, func(m api.Matroid, _ int) answer {
		is, e := do(m)
		return answer{is: is, e: e}
	}}
}

func calls() []call {
	return []call{
		{"Represent", func(m api.Matroid, p int) answer {
			x, e := repr.Represent(m, p)
			return answer{x: x, e: e}
		}},
		ofKind("Binary", repr.Binary), ofKind("Ternary", repr.Ternary), ofKind("Regular", repr.Regular),
	}
}

// TestNoMatroids: what is said of a matroid is ahead of what is said of the
// modulus.
func TestNoMatroids(t *testing.T) {
	for _, x := range probe.Wrong() {
		for _, c := range calls() {
			for _, p := range []int{2, 3, 0, 5, -1} {
				if got := c.do(x.M, p); !isRefusal(got, x.Want) {
					t.Errorf("%s(%d, %.8v; %d) = %v, want %d", c.name, x.M.N, x.M.Bases, p, got, x.Want)
				}
			}
		}
	}
}

// TestNoPanic is P1: a panic in any of these calls ends the test.
func TestNoPanic(t *testing.T) {
	for _, n := range probe.Wide() {
		for _, l := range probe.Lists() {
			for _, c := range calls() {
				c.do(api.Matroid{N: n, Bases: l}, 2)
				c.do(api.Matroid{N: n, Bases: l}, 3)
			}
		}
	}
	for _, m := range append(probe.Known(), probe.All(3)...) {
		for _, p := range probe.Wide() {
			repr.Represent(m, p)
		}
	}
}

func given() []api.Matroid {
	all := slices.Concat(probe.Known(), probe.All(3), probe.All(4))
	for _, x := range probe.Wrong() {
		all = append(all, x.M)
	}
	return all
}

// TestMemory is P2: of each call, and of each row of a matrix.
func TestMemory(t *testing.T) {
	for _, m := range given() {
		for _, c := range calls() {
			for _, p := range []int{2, 3} {
				with := func(bases []int) answer { return c.do(api.Matroid{N: m.N, Bases: bases}, p) }
				broken := []string{probe.Memory(m.Bases, func(bases []int) []int { return told(with(bases)) })}
				for i := range with(m.Bases).x.Rows {
					broken = append(broken, probe.Memory(m.Bases, func(bases []int) []int { return with(bases).x.Rows[i] }))
				}
				for _, one := range broken {
					if one != "" {
						t.Errorf("%s(%d, %.8v; %d) %s", c.name, m.N, m.Bases, p, one)
					}
				}
			}
		}
	}
}

// TestRowsApart is P2: no row has memory of another one, be it of the same
// answer or of one ahead; nor have two answers one list of rows.
func TestRowsApart(t *testing.T) {
	for _, m := range given() {
		for _, p := range []int{2, 3} {
			first, _ := repr.Represent(m, p)
			second, _ := repr.Represent(m, p)
			if !probe.RowsApart(first.Rows, second.Rows) {
				t.Errorf("Represent(%d, %.8v; %d) has rows that are not apart", m.N, m.Bases, p)
			}
		}
	}
}
