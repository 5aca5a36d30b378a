package codes_test

import (
	"math/big"
	"slices"
	"strconv"
	"testing"

	"rota/api"
	"rota/codes"
	"rota/field"
	"rota/probe"
)

// chosen: z to the power of k in 1 + az to the power of n has this coefficient.
func chosen(a, n, k int) *big.Int {
	if k < 0 || k > n {
		return new(big.Int)
	}
	c := new(big.Int).Binomial(int64(n), int64(k))
	return c.Mul(c, new(big.Int).Exp(big.NewInt(int64(a)), big.NewInt(int64(k)), nil))
}

// dual by the words of P36; each product by both coefficients, added.
func dual(p int, l []int) []string {
	n, sum := len(l)-1, 0
	for _, number := range l {
		sum += number
	}
	var texts []string
	for k := range l {
		c := new(big.Int)
		for i, number := range l {
			for of := range k + 1 {
				term := new(big.Int).Mul(chosen(-1, i, of), chosen(p-1, n-i, k-of))
				c.Add(c, term.Mul(term, big.NewInt(int64(number))))
			}
		}
		texts = append(texts, new(big.Rat).SetFrac(c, big.NewInt(int64(sum))).RatString())
	}
	return texts
}

func holdDual(t *testing.T, p int, l []int, want []string) {
	t.Helper()
	if got, e := codes.Dual(p, l); e != api.OK || !slices.Equal(got, want) {
		t.Errorf("Dual(%d, %v) = %q, %d, want %q", p, l, got, e, want)
	}
}

func moduli() []int { return []int{2, 3, 5, 7} }

// lists of one to nine numbers: few, many, at the edges.
func lists() [][]int {
	var all [][]int
	var jumps probe.Jumps
	for n := 1; n <= 9; n++ {
		for _, most := range []int{1, 2, 5, 100, 20000} {
			for range 8 {
				l := make([]int, n)
				for i := range l {
					l[i] = jumps.Next(most + 1)
				}
				l[jumps.Next(n)] = most
				all = append(all, l)
			}
		}
		for i := range n {
			l := make([]int, n)
			l[i] = 20000
			all = append(all, l)
		}
		all = append(all, slices.Repeat([]int{20000}, n))
	}
	return all
}

func TestDual(t *testing.T) {
	for _, p := range moduli() {
		for _, l := range lists() {
			holdDual(t, p, l, dual(p, l))
		}
	}
}

// TestDualByHand holds answers that were found by hand.
func TestDualByHand(t *testing.T) {
	for _, x := range []struct {
		p    int
		l    []int
		want []string
	}{
		{2, []int{1}, []string{"1"}},
		{7, []int{20000}, []string{"1"}},
		{2, []int{1, 0}, []string{"1", "1"}},
		{2, []int{0, 1}, []string{"1", "-1"}},
		{2, []int{1, 1}, []string{"1", "0"}},
		{2, []int{2, 1}, []string{"1", "1/3"}},
		{2, []int{1, 2}, []string{"1", "-1/3"}},
		{5, []int{1, 1}, []string{"1", "3/2"}},
		{5, []int{2, 4}, []string{"1", "2/3"}},
		{5, []int{1, 4}, []string{"1", "0"}},
		{5, []int{1, 9}, []string{"1", "-1/2"}},
		{2, []int{1, 0, 1}, []string{"1", "0", "1"}},
		{3, []int{1, 0, 2}, []string{"1", "0", "2"}},
		{3, []int{1, 2, 3}, []string{"1", "0", "1/2"}},
		{3, []int{1, 2, 4}, []string{"1", "-2/7", "4/7"}},
		{7, []int{20000, 19999}, []string{"1", "100001/39999"}},
		{7, []int{0, 0, 0, 0, 0, 0, 0, 0, 20000}, []string{"1", "-8", "28", "-56", "70", "-56", "28", "-8", "1"}},
		{7, []int{20000, 0, 0, 0, 0, 0, 0, 0, 0}, []string{"1", "48", "1008", "12096", "90720", "435456", "1306368", "2239488", "1679616"}},
	} {
		holdDual(t, x.p, x.l, x.want)
	}
}

// digits of whole numbers.
func digits(l []int) []string {
	var texts []string
	for _, n := range l {
		texts = append(texts, strconv.Itoa(n))
	}
	return texts
}

// TestMacWilliams: of the Weights of a matrix Dual makes those of its Kernel.
func TestMacWilliams(t *testing.T) {
	both := 0
	for _, x := range matrices() {
		kernel, e := field.Kernel(x)
		if e != api.OK {
			continue
		}
		weights, e := codes.Weights(x)
		if e != api.OK {
			continue
		}
		holdDual(t, x.P, weights, digits(weightsOf(words(kernel), x.Cols)))
		again, e := codes.Weights(kernel)
		if e != api.OK {
			continue
		}
		holdDual(t, x.P, again, digits(weights))
		both++
	}
	if both < 1000 {
		t.Errorf("only %d matrices have both", both)
	}
}

// TestNoNumbers: p is 2, 3, 5 or 7, and there are one to nine numbers, from 0
// to 20000.
func TestNoNumbers(t *testing.T) {
	wrong := [][]int{nil, {}, make([]int, 10), slices.Repeat([]int{1}, 10), make([]int, 1<<16)}
	for n := 1; n <= 9; n++ {
		for i := range n {
			for _, v := range append(probe.Wide(), 20001) {
				l := slices.Repeat([]int{3}, n)
				l[i] = v
				if v < 0 || v > 20000 {
					wrong = append(wrong, l)
				} else if n > 1 || v > 0 {
					holdDual(t, 3, l, dual(3, l))
				}
			}
			// All that are not wrong are 0, but what is told first holds.
			wrong = append(wrong, append(make([]int, i), -1), append(make([]int, i), 20001))
		}
	}
	for _, l := range wrong {
		for _, p := range append(probe.Wide(), moduli()...) {
			holdNoDual(t, p, l, api.ErrArg)
		}
	}
}

func TestNoModulus(t *testing.T) {
	for _, p := range noModuli() {
		for n := 1; n <= 9; n++ {
			holdNoDual(t, p, make([]int, n), api.ErrArg)
			holdNoDual(t, p, slices.Repeat([]int{1}, n), api.ErrArg)
		}
	}
}

func TestNothing(t *testing.T) {
	for _, p := range moduli() {
		for n := 1; n <= 9; n++ {
			holdNoDual(t, p, make([]int, n), api.ErrNone)
		}
	}
}

func holdNoDual(t *testing.T, p int, l []int, want api.Errno) {
	t.Helper()
	if got, e := codes.Dual(p, l); e != want || len(got) != 0 {
		t.Errorf("Dual(%d, %.10v) = %q, %d, want %d", p, l, got, e, want)
	}
}

// noModuli: numbers modulo which nothing is reckoned.
func noModuli() []int {
	all := append(probe.Wide(), -7, -5, -3, -2, 4, 11, 13, 1<<32+2, 1<<32+7)
	return slices.DeleteFunc(all, func(p int) bool { return slices.Contains(moduli(), p) })
}
