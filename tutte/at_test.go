package tutte_test

import (
	"math"
	"math/big"
	"strconv"
	"strings"
	"testing"

	"rota/api"
	"rota/kinds"
	"rota/probe"
	"rota/tutte"
)

// power of n, as often as it is asked for: 0 to the power of 0 is 1.
func power(n, often int) *big.Int {
	product := big.NewInt(1)
	for range often {
		product.Mul(product, big.NewInt(int64(n)))
	}
	return product
}

// valueBySets at x and y, by the words of P23.
func valueBySets(r int, many [9][9]int64, x, y int) string {
	sum := new(big.Int)
	for k := range many {
		for size, n := range many[k] {
			if n > 0 {
				term := new(big.Int).Mul(power(x-1, r-k), power(y-1, size-k))
				sum.Add(sum, term.Mul(term, big.NewInt(n)))
			}
		}
	}
	return sum.String()
}

func TestAt(t *testing.T) {
	at := []int{-1000, -999, -2, -1, 0, 1, 2, 3, 10, 999, 1000}
	for _, m := range probe.Matroids() {
		many := probe.RanksAndSizes(m)
		for _, x := range at {
			for _, y := range at {
				want := valueBySets(rank(m), many, x, y)
				if got, e := tutte.At(m, x, y); e != api.OK || got != want {
					t.Errorf("At(%v, %d, %d) = %q, %d, want %q", m, x, y, got, e, want)
				}
			}
		}
	}
}

// TestAtEdges holds answers that were found by hand.
func TestAtEdges(t *testing.T) {
	noughts := strings.Repeat("0", 24)
	three := api.Matroid{N: 8, Bases: []int{0b10110}} // x^3 times y^5
	four := api.Matroid{N: 8, Bases: []int{0b01010101}}
	for _, x := range []struct {
		m    api.Matroid
		x, y int
		want string
	}{
		{probe.Uniform(0, 0), 0, 0, "1"},
		{probe.Uniform(0, 0), -1000, 1000, "1"},
		{probe.Uniform(0, 1), 0, 0, "0"},
		{probe.Uniform(0, 1), 5, -1000, "-1000"},
		{probe.Uniform(1, 1), -1000, 5, "-1000"},
		{probe.Uniform(0, 8), 0, 1000, "1" + noughts},
		{probe.Uniform(8, 8), -1000, 0, "1" + noughts},
		{three, 1000, 1000, "1" + noughts},
		{three, -1000, 1000, "-1" + noughts},
		{three, 1000, -1000, "-1" + noughts},
		{three, -1000, -1000, "1" + noughts},
		{three, 0, -1000, "0"},
		{four, -1000, 1000, "1" + noughts},
		{four, 0, 1000, "0"},
		{four, 1, -1, "1"},
		{probe.Uniform(2, 4), 2, 1, "11"},
		{probe.Uniform(2, 4), 0, 0, "0"},
		{probe.Uniform(2, 4), -1, -1, "-2"},
		{probe.Uniform(2, 4), 1000, -1000, "2000000"},
		{probe.K4(), 2, 0, "24"},
		{probe.K4(), 0, -3, "-6"},
	} {
		if got, e := tutte.At(x.m, x.x, x.y); e != api.OK || got != x.want {
			t.Errorf("At(%v, %d, %d) = %q, %d, want %q", x.m, x.x, x.y, got, e, x.want)
		}
	}
}

// TestAtCounts: bases, independent sets, sets that have the rank of all, all
// sets.
func TestAtCounts(t *testing.T) {
	for _, m := range probe.Matroids() {
		independent, spanning := 0, 0
		for s := range 1 << m.N {
			if probe.Independent(m, s) {
				independent++
			}
			if probe.Rank(m, s) == rank(m) {
				spanning++
			}
		}
		for _, x := range []struct{ x, y, want int }{
			{1, 1, len(m.Bases)}, {2, 1, independent}, {1, 2, spanning}, {2, 2, 1 << m.N},
		} {
			if got, e := tutte.At(m, x.x, x.y); e != api.OK || got != strconv.Itoa(x.want) {
				t.Errorf("At(%v, %d, %d) = %q, %d, want %d", m, x.x, x.y, got, e, x.want)
			}
		}
	}
}

// valueOf a polynomial at q, its coefficients from the power of 0 on.
func valueOf(l []int64, q int) int64 {
	var value int64
	times := int64(1)
	for _, c := range l {
		value += c * times
		times *= int64(q)
	}
	return value
}

func sign(n int) int64 {
	if n%2 == 0 {
		return 1
	}
	return -1
}

// TestAtOfGraphs: colours, flows and directions are counted by it, too.
func TestAtOfGraphs(t *testing.T) {
	for _, g := range probe.Graphs() {
		m, _ := kinds.Graphic(g)
		colours, _ := tutte.Chromatic(g)
		flow, _ := tutte.Flow(g)
		ways, _ := tutte.Acyclic(g)
		r := rank(m)
		for q := range 10 {
			ofColours, _ := tutte.At(m, 1-q, 0)
			n, _ := strconv.ParseInt(ofColours, 10, 64)
			if got, want := valueOf(colours, q), sign(r)*power(q, g.N-r).Int64()*n; got != want {
				t.Errorf("%v has %d ways of %d colours, but %d by the polynomial", g, got, q, want)
			}
			ofFlow, _ := tutte.At(m, 0, 1-q)
			n, _ = strconv.ParseInt(ofFlow, 10, 64)
			if got, want := valueOf(flow, q), sign(m.N-r)*n; got != want {
				t.Errorf("%v has %d flows modulo %d, but %d by the polynomial", g, got, q, want)
			}
		}
		if want, _ := tutte.At(m, 2, 0); strconv.Itoa(ways) != want {
			t.Errorf("%v has %d ways of directions, but %s by the polynomial", g, ways, want)
		}
	}
}

// TestNoNumbers: x and y are from -1000 to 1000.
func TestNoNumbers(t *testing.T) {
	given := append(probe.Wide(), -1001, -1000, -999, 999, 1000, 1001, math.MinInt32-1000, 1<<32+1)
	isOne := func(n int) bool { return n >= -1000 && n <= 1000 }
	for _, m := range append(probe.Known(), probe.All(2)...) {
		for _, x := range given {
			for _, y := range given {
				got, e := tutte.At(m, x, y)
				if isOne(x) && isOne(y) {
					if e != api.OK || got == "" {
						t.Errorf("At(%v, %d, %d) = %q, %d", m, x, y, got, e)
					}
				} else if e != api.ErrArg || got != "" {
					t.Errorf("At(%v, %d, %d) = %q, %d, want %d", m, x, y, got, e, api.ErrArg)
				}
			}
		}
	}
}
