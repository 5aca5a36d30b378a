package codes_test

import (
	"math/big"
	"slices"
	"testing"

	"rota/api"
	"rota/codes"
	"rota/kinds"
	"rota/minors"
	"rota/probe"
)

func whole(n int) *big.Rat { return big.NewRat(int64(n), 1) }

// powers of a number, from that of 0 on.
func powers(a *big.Rat) []*big.Rat {
	l := []*big.Rat{whole(1)}
	for range api.MaxGround {
		l = append(l, new(big.Rat).Mul(l[len(l)-1], a))
	}
	return l
}

// tutteAt x and y, by the words of P23, of ranks and sizes.
func tutteAt(r int, many [9][9]int64, x, y *big.Rat) *big.Rat {
	ofX := powers(new(big.Rat).Sub(x, whole(1)))
	ofY := powers(new(big.Rat).Sub(y, whole(1)))
	sum := new(big.Rat)
	for k := range many {
		for size, n := range many[k] {
			if n > 0 {
				term := new(big.Rat).Mul(ofX[r-k], ofY[size-k])
				sum.Add(sum, term.Mul(term, whole(int(n))))
			}
		}
	}
	return sum
}

// greeneAt z, which is neither 0 nor 1, by the words of P36.
func greeneAt(m api.Matroid, many [9][9]int64, p int, z *big.Rat) *big.Rat {
	r := probe.Rank(m, 1<<m.N-1)
	less := new(big.Rat).Sub(whole(1), z)
	x := new(big.Rat).Mul(whole(p-1), z)
	x.Quo(x.Add(x, whole(1)), less)
	value := tutteAt(r, many, x, new(big.Rat).Inv(z))
	value.Mul(value, powers(less)[r])
	return value.Mul(value, powers(z)[m.N-r])
}

// valueAt z of a polynomial that is told in digits; false, if it is not.
func valueAt(texts []string, z *big.Rat) (*big.Rat, bool) {
	value := new(big.Rat)
	for _, text := range slices.Backward(texts) {
		c, ok := new(big.Int).SetString(text, 10)
		if !ok || c.String() != text {
			return nil, false
		}
		value.Add(value.Mul(value, z), new(big.Rat).SetInt(c))
	}
	return value, true
}

// points: as many as it takes to tell two polynomials of the power of 8 apart.
func points() []*big.Rat {
	var l []*big.Rat
	for n := 2; n <= 6; n++ {
		l = append(l, whole(n), whole(1-n))
	}
	return l
}

// TestGreene holds it to the words of P36, at each of the points.
func TestGreene(t *testing.T) {
	for _, m := range probe.Matroids() {
		many := probe.RanksAndSizes(m)
		for _, p := range moduli() {
			got, e := codes.Greene(m, p)
			if e != api.OK || len(got) != m.N+1 {
				t.Errorf("Greene(%v, %d) = %q, %d", m, p, got, e)
				continue
			}
			for _, z := range points() {
				if value, ok := valueAt(got, z); !ok || value.Cmp(greeneAt(m, many, p, z)) != 0 {
					t.Errorf("Greene(%v, %d) = %q, but at %s it is %s", m, p, got, z, greeneAt(m, many, p, z))
				}
			}
		}
	}
}

func holdGreene(t *testing.T, m api.Matroid, p int, want []string) {
	t.Helper()
	if got, e := codes.Greene(m, p); e != api.OK || !slices.Equal(got, want) {
		t.Errorf("Greene(%v, %d) = %q, %d, want %q", m, p, got, e, want)
	}
}

// TestGreeneOfMatrices: of the Linear of a matrix it tells the weights of its
// words, of however many.
func TestGreeneOfMatrices(t *testing.T) {
	for _, x := range matrices() {
		m, _ := kinds.Linear(x)
		holdGreene(t, m, x.P, digits(weightsOf(words(x), x.Cols)))
	}
}

// TestGreeneOfDual: of a matroid and its Dual each one is Dual of the other one,
// where all numbers are such as Dual takes.
func TestGreeneOfDual(t *testing.T) {
	for _, x := range probe.Matrices() {
		m, _ := kinds.Linear(x)
		weights, e := codes.Weights(x)
		if e != api.OK {
			continue
		}
		d, _ := minors.Dual(m)
		want, _ := codes.Greene(d, x.P)
		holdDual(t, x.P, weights, want)
	}
}

// TestGreeneByHand holds answers that were found by hand. Of all pairs of four
// elements there is no matrix modulo 2: one would have fewer than no words of
// the weight 4.
func TestGreeneByHand(t *testing.T) {
	for _, x := range []struct {
		m    api.Matroid
		p    int
		want []string
	}{
		{probe.Uniform(0, 0), 2, []string{"1"}},
		{probe.Uniform(0, 0), 7, []string{"1"}},
		{probe.Uniform(0, 1), 5, []string{"1", "0"}},
		{probe.Uniform(1, 1), 5, []string{"1", "4"}},
		{probe.Uniform(1, 2), 2, []string{"1", "0", "1"}},
		{probe.Uniform(1, 2), 7, []string{"1", "0", "6"}},
		{probe.Uniform(2, 4), 2, []string{"1", "0", "0", "4", "-1"}},
		{probe.Uniform(2, 4), 3, []string{"1", "0", "0", "8", "0"}},
		{probe.Uniform(2, 4), 5, []string{"1", "0", "0", "16", "8"}},
		{probe.Uniform(0, 8), 3, []string{"1", "0", "0", "0", "0", "0", "0", "0", "0"}},
		{probe.Uniform(8, 8), 2, []string{"1", "8", "28", "56", "70", "56", "28", "8", "1"}},
		{probe.Uniform(8, 8), 7, []string{"1", "48", "1008", "12096", "90720", "435456", "1306368", "2239488", "1679616"}},
		{probe.Fano(), 2, []string{"1", "0", "0", "0", "7", "0", "0", "0"}},
		{api.Matroid{N: 3, Bases: []int{1, 2}}, 3, []string{"1", "0", "2", "0"}},
		{api.Matroid{N: 3, Bases: []int{5, 6}}, 3, []string{"1", "2", "2", "4"}},
	} {
		holdGreene(t, x.m, x.p, x.want)
	}
}

func TestGreeneOfNoModulus(t *testing.T) {
	for _, m := range append(probe.Known(), probe.All(2)...) {
		for _, p := range noModuli() {
			if got, e := codes.Greene(m, p); e != api.ErrArg || len(got) != 0 {
				t.Errorf("Greene(%v, %d) = %q, %d, want ErrArg", m, p, got, e)
			}
		}
	}
}
