package current_test

import (
	"math/big"
	"slices"

	"rota/api"
	"rota/probe"
)

// net: a graph, and how well each of its edges conducts.
type net struct {
	g api.Graph
	c []int
}

// conducting: n numbers from 1 to far.
func conducting(jumps *probe.Jumps, n, far int) []int {
	c := make([]int, n)
	for i := range c {
		c[i] = 1 + jumps.Next(far)
	}
	return c
}

// nets: each graph of probe with some numbers: all alike, few and many.
func nets() []net {
	var all []net
	var jumps probe.Jumps
	for _, g := range probe.Graphs() {
		n := len(g.Edges)
		all = append(all, net{g, slices.Repeat([]int{1}, n)}, net{g, slices.Repeat([]int{1000}, n)})
		for _, far := range []int{3, 1000, 1000} {
			all = append(all, net{g, conducting(&jumps, n, far)})
		}
	}
	return all
}

// someNets: every seventh of them.
func someNets() []net {
	var some []net
	for i, x := range nets() {
		if i%7 == 0 {
			some = append(some, x)
		}
	}
	return some
}

// whole: the vertices that hang together with v by all edges.
func (x net) whole(v int) int { return probe.Part(x.g, 1<<len(x.g.Edges)-1, v) }

// fraction of a text, which has to be in lowest terms.
func fraction(text string) (*big.Rat, bool) {
	n, ok := new(big.Rat).SetString(text)
	return n, ok && n.RatString() == text
}

// fractions of texts, all of them in lowest terms.
func fractions(texts []string) ([]*big.Rat, bool) {
	var l []*big.Rat
	for _, text := range texts {
		n, ok := fraction(text)
		if !ok {
			return nil, false
		}
		l = append(l, n)
	}
	return l, true
}

func of(n int) *big.Rat { return big.NewRat(int64(n), 1) }

// sumOf these.
func sumOf(l []*big.Rat) *big.Rat {
	sum := new(big.Rat)
	for _, n := range l {
		sum.Add(sum, n)
	}
	return sum
}
