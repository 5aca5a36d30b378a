package tutte_test

import (
	"math/big"
	"strings"
	"testing"

	"rota/api"
	"rota/probe"
	"rota/tutte"
)

// spanning: how many sets of so many edges there are by which all vertices
// hang together.
func spanning(g api.Graph) (many [api.MaxGround + 1]int64) {
	for s := range 1 << len(g.Edges) {
		if partsOf(g, s) == 1 {
			many[count(s)]++
		}
	}
	return many
}

// reliable: the probability by the words of P24.
func reliable(g api.Graph, many [api.MaxGround + 1]int64, up, down int) string {
	stays, goes := big.NewRat(int64(up), int64(down)), big.NewRat(int64(down-up), int64(down))
	sum := new(big.Rat)
	for n := range len(g.Edges) + 1 {
		p := new(big.Rat).SetInt64(many[n])
		for i := range len(g.Edges) {
			if i < n {
				p.Mul(p, stays)
			} else {
				p.Mul(p, goes)
			}
		}
		sum.Add(sum, p)
	}
	return sum.RatString()
}

func TestReliability(t *testing.T) {
	for _, g := range probe.Graphs() {
		many := spanning(g)
		for _, x := range []struct{ up, down int }{
			{0, 1}, {1, 1}, {0, 1000}, {1000, 1000}, {1, 1000}, {999, 1000}, {500, 1000},
			{1, 2}, {1, 3}, {2, 4}, {6, 9}, {5, 6}, {17, 60}, {996, 997}, {1, 997}, {720, 960}, {512, 999},
		} {
			want := reliable(g, many, x.up, x.down)
			if got, e := tutte.Reliability(g, x.up, x.down); e != api.OK || got != want {
				t.Errorf("Reliability(%v, %d, %d) = %q, %d, want %q", g, x.up, x.down, got, e, want)
			}
		}
	}
}

// TestReliabilityOfAll: of one graph, with each down to 60 and each up to it.
func TestReliabilityOfAll(t *testing.T) {
	g := probe.GraphOf(4, 0, 1, 1, 2, 2, 0, 2, 3, 3, 2)
	many := spanning(g)
	for down := 1; down <= 60; down++ {
		for up := range down + 1 {
			want := reliable(g, many, up, down)
			if got, e := tutte.Reliability(g, up, down); e != api.OK || got != want {
				t.Errorf("Reliability(%v, %d, %d) = %q, %d, want %q", g, up, down, got, e, want)
			}
		}
	}
}

// TestReliabilityEdges holds answers that were found by hand.
func TestReliabilityEdges(t *testing.T) {
	side := probe.GraphOf(2, 0, 1, 1, 0, 0, 1, 1, 0, 0, 1, 1, 0, 0, 1, 1, 0)
	ring := probe.GraphOf(3, 0, 1, 1, 2, 2, 0)
	for _, x := range []struct {
		g        api.Graph
		up, down int
		want     string
	}{
		// One vertex hangs together, whatever stays.
		{probe.GraphOf(1), 0, 1, "1"},
		{probe.GraphOf(1), 1, 1000, "1"},
		{probe.GraphOf(1, 0, 0, 0, 0), 0, 7, "1"},
		{probe.GraphOf(1, 0, 0, 0, 0), 3, 7, "1"},
		{probe.GraphOf(2), 1, 1, "0"},
		{probe.GraphOf(7), 1, 2, "0"},
		{probe.GraphOf(4, 0, 1, 2, 3), 1, 2, "0"},
		{probe.GraphOf(2, 0, 1), 0, 5, "0"},
		{probe.GraphOf(2, 0, 1), 1, 3, "1/3"},
		{probe.GraphOf(2, 0, 1), 2, 4, "1/2"},
		{probe.GraphOf(2, 0, 1), 1000, 1000, "1"},
		{probe.GraphOf(2, 0, 1, 1, 1), 1, 3, "1/3"},
		{probe.GraphOf(2, 0, 1, 1, 0), 1, 3, "5/9"},
		{ring, 1, 2, "1/2"},
		{ring, 1, 3, "7/27"},
		{ring, 2, 3, "20/27"},
		{ring, 4, 6, "20/27"},
		{side, 999, 1000, strings.Repeat("9", 24) + "/1" + strings.Repeat("0", 24)},
		{side, 998, 1000, "3906249999999999999999/3906250000000000000000"},
		{probe.GraphOf(7, 0, 1, 0, 2, 0, 3, 0, 4, 0, 5, 0, 6), 1, 1000, "1/1000000000000000000"},
	} {
		if got, e := tutte.Reliability(x.g, x.up, x.down); e != api.OK || got != x.want {
			t.Errorf("Reliability(%v, %d, %d) = %q, %d, want %q", x.g, x.up, x.down, got, e, x.want)
		}
	}
}

// TestNoProbabilities: down is from 1 to 1000, up from 0 to down.
func TestNoProbabilities(t *testing.T) {
	given := append(probe.Wide(), -1001, -1000, 999, 1000, 1001, 1<<32+1)
	for _, g := range []api.Graph{probe.GraphOf(1), probe.GraphOf(2), probe.GraphOf(3, 0, 1, 1, 2, 2, 0, 1, 1)} {
		for _, up := range given {
			for _, down := range append(given, up-1, up, up+1) {
				got, e := tutte.Reliability(g, up, down)
				if down >= 1 && down <= 1000 && up >= 0 && up <= down {
					if e != api.OK || got == "" {
						t.Errorf("Reliability(%v, %d, %d) = %q, %d", g, up, down, got, e)
					}
				} else if e != api.ErrArg || got != "" {
					t.Errorf("Reliability(%v, %d, %d) = %q, %d, want %d", g, up, down, got, e, api.ErrArg)
				}
			}
		}
	}
}
