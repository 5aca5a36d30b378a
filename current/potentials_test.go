package current_test

import (
	"math/big"
	"slices"
	"testing"

	"rota/api"
	"rota/current"
	"rota/probe"
)

// outOf a vertex: the sum, over its edges, of what they conduct times the
// difference of its potential and that of the other end.
func (x net) outOf(v int, l []*big.Rat) *big.Rat {
	sum := new(big.Rat)
	for i, edge := range x.g.Edges {
		for _, ends := range [][2]int{{edge.A, edge.B}, {edge.B, edge.A}} {
			if ends[0] == v {
				difference := new(big.Rat).Sub(l[v], l[ends[1]])
				sum.Add(sum, difference.Mul(difference, of(x.c[i])))
			}
		}
	}
	return sum
}

// arePotentials by the words of P41, which leave no others.
func (x net) arePotentials(texts []string, s, t int) bool {
	l, ok := fractions(texts)
	if !ok || len(l) != x.g.N {
		return false
	}
	for v := range l {
		switch {
		case v == t || x.whole(t)>>v&1 == 0:
			if l[v].Sign() != 0 {
				return false
			}
		case v == s:
			if x.outOf(v, l).Cmp(of(1)) != 0 {
				return false
			}
		default:
			if x.outOf(v, l).Sign() != 0 {
				return false
			}
		}
	}
	return true
}

// TestPotentials holds both calls to the words of P41, from all vertices to all
// of them.
func TestPotentials(t *testing.T) {
	for _, x := range nets() {
		for a := range x.g.N {
			for b := range x.g.N {
				if x.whole(a)>>b&1 == 0 {
					hold(t, potentials(), x, a, b, answer{e: api.ErrNone})
					hold(t, resistance(), x, a, b, answer{e: api.ErrNone})
					continue
				}
				l, e := current.Potentials(x.g, x.c, a, b)
				if e != api.OK || !x.arePotentials(l, a, b) {
					t.Errorf("Potentials(%v, %d, %d) = %v, %d", x, a, b, l, e)
					continue
				}
				hold(t, resistance(), x, a, b, answer{text: l[a]})
			}
		}
	}
}

// TestReciprocity: what s does at v, v does at s, and the Resistance is the same
// there and back.
func TestReciprocity(t *testing.T) {
	for _, x := range someNets() {
		for a := range x.g.N {
			for b := range x.g.N {
				l, e := current.Potentials(x.g, x.c, a, b)
				hold(t, resistance(), x, b, a, resistance().do(x.g, x.c, a, b))
				for v := range l {
					if x.whole(b)>>v&1 == 0 || e != api.OK {
						continue
					}
					if back, _ := current.Potentials(x.g, x.c, v, b); back[a] != l[v] {
						t.Errorf("%v, to %d: from %d at %d it is %s, the other way %s", x, b, a, v, l[v], back[a])
					}
				}
			}
		}
	}
}

// TestRayleigh: where an edge conducts better no Resistance is greater.
func TestRayleigh(t *testing.T) {
	for _, x := range someNets() {
		for i := range x.c {
			better := net{x.g, slices.Clone(x.c)}
			better.c[i] = min(1000, 2*x.c[i]+1)
			for a := range x.g.N {
				for b := range a {
					was, e := current.Resistance(x.g, x.c, a, b)
					is, _ := current.Resistance(better.g, better.c, a, b)
					if e != api.OK {
						continue
					}
					before, _ := fraction(was)
					after, _ := fraction(is)
					if after.Cmp(before) > 0 {
						t.Errorf("%v, %d to %d: %s, but %s where %d conducts better", x, a, b, was, is, i)
					}
				}
			}
		}
	}
}

// TestTurnedRound: neither the direction of edges nor their order, nor an edge
// from a vertex to itself makes a difference.
func TestTurnedRound(t *testing.T) {
	for _, x := range someNets() {
		turned := net{g: api.Graph{N: x.g.N}}
		for i, edge := range x.g.Edges {
			if edge.A != edge.B {
				turned.g.Edges = append([]api.Edge{{A: edge.B, B: edge.A}}, turned.g.Edges...)
				turned.c = append([]int{x.c[i]}, turned.c...)
			}
		}
		for a := range x.g.N {
			for b := range x.g.N {
				hold(t, potentials(), turned, a, b, potentials().do(x.g, x.c, a, b))
			}
		}
		hold(t, trees(), turned, 0, 0, trees().do(x.g, x.c, 0, 0))
	}
}

// TestPotentialsByHand holds answers that were found by hand.
func TestPotentialsByHand(t *testing.T) {
	ring := probe.GraphOf(7, 0, 1, 1, 2, 2, 3, 3, 4, 4, 5, 5, 6, 6, 0)
	sevens := slices.Repeat([]int{7}, 7)
	// The two middles of a bridge, with and without an edge between.
	bridge := probe.GraphOf(4, 0, 1, 0, 2, 1, 3, 2, 3, 1, 2)
	for _, x := range []struct {
		net
		s, t int
		want []string
	}{
		// From a vertex to itself, whatever there is.
		{net{probe.GraphOf(1), nil}, 0, 0, []string{"0"}},
		{net{probe.GraphOf(1, 0, 0), []int{5}}, 0, 0, []string{"0"}},
		{net{probe.GraphOf(3), nil}, 1, 1, []string{"0", "0", "0"}},
		{net{ring, sevens}, 3, 3, []string{"0", "0", "0", "0", "0", "0", "0"}},
		// One edge; it has no direction.
		{net{probe.GraphOf(2, 0, 1), []int{1}}, 0, 1, []string{"1", "0"}},
		{net{probe.GraphOf(2, 0, 1), []int{1}}, 1, 0, []string{"0", "1"}},
		{net{probe.GraphOf(2, 0, 1), []int{1000}}, 0, 1, []string{"1/1000", "0"}},
		// Side by side they add up, what leads back to its vertex does not.
		{net{probe.GraphOf(2, 0, 1, 1, 0), []int{1, 1}}, 0, 1, []string{"1/2", "0"}},
		{net{probe.GraphOf(2, 0, 1, 1, 0, 0, 0, 1, 1), []int{2, 4, 100, 7}}, 1, 0, []string{"0", "1/6"}},
		{net{probe.GraphOf(2, 0, 1, 0, 1, 0, 1, 0, 1, 0, 1, 0, 1, 0, 1, 0, 1), slices.Repeat([]int{1000}, 8)}, 0, 1, []string{"1/8000", "0"}},
		// One behind the other they resist together.
		{net{probe.GraphOf(3, 0, 1, 1, 2), []int{2, 3}}, 0, 2, []string{"5/6", "1/3", "0"}},
		{net{probe.GraphOf(3, 0, 1, 1, 2), []int{1, 1}}, 0, 2, []string{"2", "1", "0"}},
		{net{probe.GraphOf(3, 0, 1, 1, 2), []int{2, 3}}, 0, 1, []string{"1/2", "0", "0"}},
		{net{probe.GraphOf(3, 0, 1, 1, 2), []int{2, 3}}, 1, 0, []string{"0", "1/2", "1/2"}},
		{net{probe.GraphOf(7, 0, 1, 1, 2, 2, 3, 3, 4, 4, 5, 5, 6), slices.Repeat([]int{1}, 6)}, 6, 0, []string{"0", "1", "2", "3", "4", "5", "6"}},
		// Round a ring: six edges resist 6/7, and 1/7 is beside them.
		{net{ring, sevens}, 0, 1, []string{"6/49", "0", "1/49", "2/49", "3/49", "4/49", "5/49"}},
		// A part of its own has potential 0, whatever it has.
		{net{probe.GraphOf(5, 0, 1, 2, 3, 3, 4, 4, 2), []int{3, 1, 2, 5}}, 0, 1, []string{"1/3", "0", "0", "0", "0"}},
		{net{probe.GraphOf(5, 0, 1, 2, 3, 3, 4, 4, 2), []int{3, 1, 1, 1}}, 2, 3, []string{"0", "0", "2/3", "0", "1/3"}},
		// Between the middles nothing flows.
		{net{bridge, []int{1, 1, 1, 1, 9}}, 0, 3, []string{"1", "1/2", "1/2", "0"}},
		{net{bridge, []int{2, 4, 3, 6, 1000}}, 0, 3, []string{"5/18", "1/9", "1/9", "0"}},
		{net{bridge, []int{1, 2, 2, 1, 1}}, 0, 3, []string{"5/7", "2/7", "3/7", "0"}},
	} {
		hold(t, potentials(), x.net, x.s, x.t, answer{l: x.want})
		hold(t, resistance(), x.net, x.s, x.t, answer{text: x.want[x.s]})
	}
}

// TestNoEnds: s or t is no vertex; that is told ahead of ErrNone.
func TestNoEnds(t *testing.T) {
	for _, x := range someNets() {
		for _, v := range append(probe.Wide(), x.g.N, -x.g.N) {
			if v >= 0 && v < x.g.N {
				continue
			}
			for _, c := range []call{potentials(), resistance()} {
				hold(t, c, x, v, v, answer{e: api.ErrArg})
				for right := range x.g.N {
					hold(t, c, x, v, right, answer{e: api.ErrArg})
					hold(t, c, x, right, v, answer{e: api.ErrArg})
				}
			}
		}
	}
}
