package current_test

import (
	"math/big"
	"slices"
	"strings"
	"testing"

	"rota/api"
	"rota/current"
	"rota/probe"
)

// treesOf all sets of so many edges, by the words of P42: the sum over all of
// them, and over those that have an edge.
func (x net) treesOf() (all *big.Int, having []*big.Int) {
	all, having = new(big.Int), make([]*big.Int, len(x.c))
	for i := range having {
		having[i] = new(big.Int)
	}
	for s := range 1 << len(x.c) {
		edges := probe.Elements(s)
		if len(edges) != x.g.N-1 || probe.Part(x.g, s, 0) != 1<<x.g.N-1 {
			continue
		}
		product := big.NewInt(1)
		for _, i := range edges {
			product.Mul(product, big.NewInt(int64(x.c[i])))
		}
		all.Add(all, product)
		for _, i := range edges {
			having[i].Add(having[i], product)
		}
	}
	return all, having
}

// TestTrees holds both calls to the words of P42.
func TestTrees(t *testing.T) {
	for _, x := range nets() {
		all, having := x.treesOf()
		hold(t, trees(), x, 0, 0, answer{text: all.String()})
		if all.Sign() == 0 {
			hold(t, shares(), x, 0, 0, answer{e: api.ErrNone})
			continue
		}
		var l []string
		for _, some := range having {
			l = append(l, new(big.Rat).SetFrac(some, all).RatString())
		}
		hold(t, shares(), x, 0, 0, answer{l: l})
	}
}

// TestFoster: each Share is what the edge conducts times the Resistance between
// its ends; together they are N - 1.
func TestFoster(t *testing.T) {
	for _, x := range nets() {
		texts, e := current.Shares(x.g, x.c)
		if e != api.OK {
			continue
		}
		l, ok := fractions(texts)
		if !ok || sumOf(l).Cmp(of(x.g.N-1)) != 0 {
			t.Errorf("Shares(%v) = %v", x, texts)
			continue
		}
		for i, edge := range x.g.Edges {
			text, _ := current.Resistance(x.g, x.c, edge.A, edge.B)
			between, _ := fraction(text)
			if between.Mul(between, of(x.c[i])).Cmp(l[i]) != 0 {
				t.Errorf("%v: %d has the share %s, and resists %s", x, i, texts[i], text)
			}
		}
	}
}

// TestTreesByHand holds answers that were found by hand.
func TestTreesByHand(t *testing.T) {
	ring := probe.GraphOf(7, 0, 1, 1, 2, 2, 3, 3, 4, 4, 5, 5, 6, 6, 0)
	noughts := strings.Repeat("0", 18)
	thousands := func(n int) []int { return slices.Repeat([]int{1000}, n) }
	for _, x := range []struct {
		net
		trees  string
		shares []string
	}{
		// One vertex: the empty set is one, whatever leads back to it.
		{net{probe.GraphOf(1), nil}, "1", nil},
		{net{probe.GraphOf(1, 0, 0), []int{1000}}, "1", []string{"0"}},
		{net{probe.GraphOf(2), nil}, "0", nil},
		{net{probe.GraphOf(7), nil}, "0", nil},
		{net{probe.GraphOf(2, 0, 0), []int{4}}, "0", nil},
		{net{probe.GraphOf(4, 0, 1, 2, 3, 1, 0, 3, 2), []int{1, 2, 3, 4}}, "0", nil},
		{net{probe.GraphOf(2, 0, 1), []int{7}}, "7", []string{"1"}},
		{net{probe.GraphOf(2, 1, 0, 0, 0, 0, 1), []int{3, 5, 6}}, "9", []string{"1/3", "0", "2/3"}},
		{net{probe.GraphOf(2, 0, 1, 1, 0), []int{1, 1}}, "2", []string{"1/2", "1/2"}},
		{net{probe.GraphOf(3, 0, 1, 1, 2), []int{2, 3}}, "6", []string{"1", "1"}},
		{net{probe.GraphOf(3, 0, 1, 1, 2, 2, 0), []int{1, 2, 3}}, "11", []string{"5/11", "8/11", "9/11"}},
		{net{probe.GraphOf(4, 0, 1, 0, 2, 0, 3, 1, 2, 1, 3, 2, 3), slices.Repeat([]int{1}, 6)}, "16", []string{"1/2", "1/2", "1/2", "1/2", "1/2", "1/2"}},
		{net{ring, slices.Repeat([]int{1}, 7)}, "7", []string{"6/7", "6/7", "6/7", "6/7", "6/7", "6/7", "6/7"}},
		{net{ring, thousands(7)}, "7" + noughts, []string{"6/7", "6/7", "6/7", "6/7", "6/7", "6/7", "6/7"}},
		// Of three ways of 3, 3 and 2 edges there are as many as can be: they
		// have no room in 64 bits.
		{
			net{probe.GraphOf(7, 0, 1, 1, 2, 2, 3, 0, 4, 4, 5, 5, 3, 0, 6, 6, 3), thousands(8)}, "21" + noughts,
			[]string{"16/21", "16/21", "16/21", "16/21", "16/21", "16/21", "5/7", "5/7"},
		},
	} {
		hold(t, trees(), x.net, 0, 0, answer{text: x.trees})
		if x.trees == "0" {
			hold(t, shares(), x.net, 0, 0, answer{e: api.ErrNone})
			continue
		}
		hold(t, shares(), x.net, 0, 0, answer{l: x.shares})
	}
}
